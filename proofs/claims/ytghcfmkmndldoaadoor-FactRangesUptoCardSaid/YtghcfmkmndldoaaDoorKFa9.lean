/-
  four: a number in four bytes; summed; foot.
-/
import Derived.Test.YtghcfmkmndldoaaDoorKFa3
import Derived.Test.YtghcfmkmndldoaaDoorFaBy
import Derived.Test.YtghcfmkmndldoaaDoorKRefRn
import Derived.Test.YtghcfmkmndldoaaDoorLow
import Derived.Test.YtghcfmkmndldoaaDoorKGet
import Derived.Test.YtghcfmkmndldoaaDoorKPageSpec
import Derived.Test.YtghcfmkmndldoaaDoorKBase
namespace Go.Proofs.YtghcfmkmndldoaaDoor
open Go.RowKit Go.Sort Go.Lib

section
set_option maxRecDepth 100000
set_option maxHeartbeats 4000000
theorem pfour_any (v : Nat) (w : World) (hv : v < 4294967296) : Calls Tryd.prog 99 #[.int .u32 (v : Int)] w fun e w' => ∃ b, e = .returned b ∧ Own w' w.heap.size b (leBytes 4 v) ∧ Below w.heap.size w w' := by
  go_enter Tryd.func99, Tryd.ntmps99
  go_wp2_with fail
  go_ret
  have h0 : (v : Int) % 256 = ((UInt8.ofNat v).toNat : Int) := byte_of v
  have h1 : (v : Int) / 256 % 256 = ((UInt8.ofNat (v / 256)).toNat : Int) := byte_of (v / 256)
  have h2 : (v : Int) / 65536 % 256 = ((UInt8.ofNat (v / 256 / 256)).toNat : Int) := by rw [← byte_of]; omega
  have h3 : (v : Int) / 16777216 = ((UInt8.ofNat (v / 256 / 256 / 256)).toNat : Int) := by rw [← byte_of]; omega
  have e : (#[Value.int .u8 ((v : Int) % 256), Value.int .u8 ((v : Int) / 256 % 256), Value.int .u8 ((v : Int) / 65536 % 256), Value.int .u8 ((v : Int) / 16777216)] : Array Value) = (bvs (leBytes 4 v)).toArray := by
    rw [h0, h1, h2, h3]
    rfl
  refine ⟨_, rfl, ?_, (Below.refl _ _).alloc (Nat.le_refl _) _⟩
  rw [e]
  exact Blk.own (l := leBytes 4 v) (heap_alloc_new w _) (Nat.le_refl _) (by rw [leBytes_length]; omega)
theorem summed_any (A : Option Addr) (c : Nat) (l : List UInt8) (w : World) (ht : Tab w) (hr : RB w w.heap.size A l) (hl : l.length ≤ 1099511627776) (hc : l.length ≤ c) :
    Calls Tryd.prog 58 #[.slice A l.length c] w fun e w' => ∃ b, e = .returned b ∧ Own w' w.heap.size b (sumdF l) ∧ Below w.heap.size w w' := by
  have hB1 : Below w.heap.size w (w.alloc (.cells #[.slice A l.length c] 25)) := (Below.refl _ _).alloc (Nat.le_refl _) _
  have HS : Hid (Calls Tryd.prog 89 #[.slice (some ⟨w.heap.size, 0, none⟩) 1 1] (w.alloc (.cells #[.slice A l.length c] 25)) fun e w' => e = .returned (.int .u32 (sumOf l : Nat)) ∧ w.alloc (.cells #[.slice A l.length c] 25) = w') := by
    have := sum_any (some ⟨w.heap.size, 0, none⟩) 1 [l] (w.alloc (.cells #[.slice A l.length c] 25)) (w.heap.size + 1) (ht.below hB1 ht.pos) (RBB.one w c _ hr (Nat.le_refl _) hc) (by simp) (by simpa using hl)
    refine Lib.hid ?_
    simpa using this
  have HB := Lib.hid hB1
  have HF := Lib.hid (fun W => pfour_any (sumOf l) W (sumOf_lt l))
  have Hr : Hid (RB (w.alloc (.cells #[.slice A l.length c] 25)) w.heap.size A l) := hr.below hB1
  have Hl := Lib.hid hl
  have Hs : Hid (sumdF l = leBytes 4 (sumOf l) ++ l) := rfl
  generalize sumdF l = sl at Hs ⊢
  generalize sumOf l = sv at *
  clear hr hl ht hB1
  go_enter Tryd.func58, Tryd.ntmps58
  go_wp2_with fail
  refine HS.out.mono ?_
  rintro e w1 ⟨rfl, rfl⟩
  go_wp2_with fail
  refine (HF.out _).mono ?_
  rintro e w2 ⟨b, rfl, ho2, hb2⟩
  have H2 : Hid (Own w2 w.heap.size b (leBytes 4 sv) ∧ Below w.heap.size w w2 ∧ RB w2 w.heap.size A l) := ⟨ho2.wide (by simp), HB.out.trans (hb2.mono (by simp)), Hr.out.below (hb2.mono (by simp))⟩
  clear ho2 hb2 HF HS
  go_wp2_with (at_builtin; go_must (refine app_bytes rfl (.tmp 6) (.tmp 7) rfl w.heap.size _ _ rfl H2.out.1 w.heap.size A l.length c l rfl rfl H2.out.2.2 (by have := Hl.out; rw [leBytes_length]; omega) H2.out.2.1.size ?_); intro v3 w3 ho3 hb3 _)
  go_ret
  exact ⟨_, rfl, by rw [Hs.out]; exact ho3, H2.out.2.1.trans hb3⟩
theorem pfoot_any (a b : Nat) (w : World) (ht : Tab w) (ha : a < 4294967296) (hb : b < 4294967296) :
    Calls Tryd.prog 60 #[.int .i64 (a : Int), .int .i64 (b : Int)] w fun e w' => ∃ v, e = .returned v ∧ Own w' w.heap.size v (footF a b) ∧ Below w.heap.size w w' := by
  have hwa : IntKind.u32.wrap (a : Int) = (a : Int) := by rw [IntKind.wrap_u32]; omega
  have hwb : IntKind.u32.wrap (b : Int) = (b : Int) := by rw [IntKind.wrap_u32]; omega
  have HF := Lib.hid (fun v W h => pfour_any v W h)
  have Ht := Lib.hid ht
  have Hab : Hid (a < 4294967296 ∧ b < 4294967296) := ⟨ha, hb⟩
  have Hs : Hid (footF a b = leBytes 4 a ++ leBytes 4 b ++ leBytes 4 (sumOf (leBytes 4 a ++ leBytes 4 b))) := rfl
  generalize footF a b = ff at Hs ⊢
  clear ht ha hb
  go_enter Tryd.func60, Tryd.ntmps60
  go_wp2_with fail
  refine (HF.out a _ Hab.out.1).mono ?_
  rintro e w1 ⟨v1, rfl, ho1, hb1⟩
  have H1 : Hid (Own w1 w.heap.size v1 (leBytes 4 a) ∧ Below w.heap.size w w1) := ⟨ho1, hb1⟩
  clear ho1 hb1
  go_wp2_with fail
  refine (HF.out b _ Hab.out.2).mono ?_
  rintro e w2 ⟨v2, rfl, ho2, hb2⟩
  obtain ⟨A2, c2, rfl, hc2, hr2, _⟩ := ho2.rb
  rw [leBytes_length] at hc2 ⊢
  have H2 : Hid (Own w2 w.heap.size v1 (leBytes 4 a) ∧ Below w.heap.size w w2 ∧ RB w2 w2.heap.size A2 (leBytes 4 b)) := ⟨H1.out.1.below hb2, H1.out.2.trans (hb2.mono H1.out.2.size), hr2⟩
  clear ho2 hb2 hr2 hc2 H1
  go_upto_region 2 with (at_builtin; go_must (refine app_bytes rfl (.tmp 8) (.tmp 11) rfl w.heap.size _ _ rfl H2.out.1 _ A2 4 c2 (leBytes 4 b) rfl (by rw [leBytes_length]) H2.out.2.2 (by rw [leBytes_length, leBytes_length]; omega) H2.out.2.1.size ?_); intro v3 w3 ho3 hb3 _; obtain ⟨A3, c3, e3, hc3, hr3, _⟩ := ho3.rb; have H3 : Hid (Own w3 w.heap.size v3 (leBytes 4 a ++ leBytes 4 b) ∧ Below w.heap.size w w3 ∧ RB w3 w3.heap.size A3 (leBytes 4 a ++ leBytes 4 b) ∧ (leBytes 4 a ++ leBytes 4 b).length ≤ c3) := ⟨ho3, H2.out.2.1.trans hb3, hr3, hc3⟩; rw [List.length_append, leBytes_length, leBytes_length] at e3; subst e3; clear ho3 hb3 hr3 hc3)
  have HS3 : Hid (Calls Tryd.prog 89 #[.slice (some ⟨w3.heap.size, 0, none⟩) 1 1] (w3.alloc (.cells #[.slice A3 (4 + 4) c3] 25)) fun e w' => e = .returned (.int .u32 (sumOf (leBytes 4 a ++ leBytes 4 b) : Nat)) ∧ w3.alloc (.cells #[.slice A3 (4 + 4) c3] 25) = w') := by
    refine Lib.hid ?_
    have h9 : (leBytes 4 a ++ leBytes 4 b).length = 4 + 4 := by rw [List.length_append, leBytes_length, leBytes_length]
    have hb4 : Below w.heap.size w (w3.alloc (.cells #[.slice A3 (4 + 4) c3] 25)) := H3.out.2.1.alloc H3.out.2.1.size _
    have := sum_any (some ⟨w3.heap.size, 0, none⟩) 1 [leBytes 4 a ++ leBytes 4 b] (w3.alloc (.cells #[.slice A3 (4 + 4) c3] 25)) (w3.heap.size + 1) (Ht.out.below hb4 Ht.out.pos) (by
      have := RBB.one w3 c3 25 H3.out.2.2.1 (Nat.le_refl _) H3.out.2.2.2
      rw [h9] at this
      exact this) (by simp) (by intro l hl; rw [List.mem_singleton] at hl; rw [hl, h9]; omega)
    simpa using this
  have Hlt := Lib.hid (sumOf_lt (leBytes 4 a ++ leBytes 4 b))
  generalize sumOf (leBytes 4 a ++ leBytes 4 b) = sv at *
  clear H2
  go_wp2_with fail
  refine HS3.out.mono ?_
  rintro e w4 ⟨rfl, rfl⟩
  have H4 : Hid (Own (w3.alloc (.cells #[.slice A3 (4 + 4) c3] 25)) w.heap.size (.slice A3 (4 + 4) c3) (leBytes 4 a ++ leBytes 4 b) ∧ Below w.heap.size w (w3.alloc (.cells #[.slice A3 (4 + 4) c3] 25))) := ⟨H3.out.1.alloc _, H3.out.2.1.alloc H3.out.2.1.size _⟩
  clear HS3 H3
  generalize w3.alloc (.cells #[.slice A3 (4 + 4) c3] 25) = w4 at *
  go_wp2_with fail
  refine (HF.out sv _ Hlt.out).mono ?_
  rintro e w5 ⟨v5, rfl, ho5, hb5⟩
  obtain ⟨A5, c5, rfl, hc5, hr5, _⟩ := ho5.rb
  rw [leBytes_length] at hc5 ⊢
  have H5 : Hid (Own w5 w.heap.size (.slice A3 (4 + 4) c3) (leBytes 4 a ++ leBytes 4 b) ∧ Below w.heap.size w w5 ∧ RB w5 w5.heap.size A5 (leBytes 4 sv)) := ⟨H4.out.1.below hb5, H4.out.2.trans (hb5.mono H4.out.2.size), hr5⟩
  clear ho5 hb5 hr5 hc5 H4
  go_wp2_with (at_builtin; go_must (refine app_bytes rfl (.tmp 13) (.tmp 17) rfl w.heap.size _ _ rfl H5.out.1 _ A5 4 c5 (leBytes 4 sv) rfl (by rw [leBytes_length]) H5.out.2.2 (by rw [List.length_append, leBytes_length, leBytes_length, leBytes_length]; omega) H5.out.2.1.size ?_); intro v6 w6 ho6 hb6 _)
  go_ret
  exact ⟨_, rfl, by rw [Hs.out]; exact ho6, H5.out.2.1.trans hb6⟩
end
end Go.Proofs.YtghcfmkmndldoaaDoor

/-
  number, unsummed: four bytes read; a sum held against what is behind it.
-/
namespace Go.Proofs.YtghcfmkmndldoaaDoor
open Go.RowKit Go.Sort Go.Lib

set_option maxRecDepth 20000 in
set_option maxHeartbeats 400000 in
theorem pnum_any (A : Option Addr) (c : Nat) (l : List UInt8) (w : World) (B : Nat) (hr : RB w B A l) (h4 : 4 ≤ l.length) (hl : l.length ≤ 1099511627776) :
    Calls Tryd.prog 103 #[.slice A l.length c] w fun e w' => e = .returned (.int .u32 (leNat (l.take 4) : Nat)) ∧ ∃ n, w' = w.drewN n := by
  obtain ⟨ad, rfl, _, h0⟩ := hr.at_ (show 0 < l.length by omega)
  obtain ⟨ad', e1, _, h1⟩ := hr.at_ (show 1 < l.length by omega)
  cases e1
  obtain ⟨ad', e1, _, h2⟩ := hr.at_ (show 2 < l.length by omega)
  cases e1
  obtain ⟨ad', e1, _, h3⟩ := hr.at_ (show 3 < l.length by omega)
  cases e1
  go_enter Tryd.func103, Tryd.ntmps103
  rw [show ad.add 0 = ad from rfl] at h0
  rw [show ad.add 1 = ⟨ad.block, ad.off + 1, none⟩ from rfl] at h1
  rw [show ad.add 2 = ⟨ad.block, ad.off + 2, none⟩ from rfl] at h2
  rw [show ad.add 3 = ⟨ad.block, ad.off + 3, none⟩ from rfl] at h3
  have b0 : (l[0].toNat : Int) < 256 := by have := l[0].toNat_lt; omega
  have b1 : (l[1].toNat : Int) < 256 := by have := l[1].toNat_lt; omega
  have b2 : (l[2].toNat : Int) < 256 := by have := l[2].toNat_lt; omega
  have b3 : (l[3].toNat : Int) < 256 := by have := l[3].toNat_lt; omega
  generalize hx0 : l[0].toNat = x0 at h0 b0
  generalize hx1 : l[1].toNat = x1 at h1 b1
  generalize hx2 : l[2].toNat = x2 at h2 b2
  generalize hx3 : l[3].toNat = x3 at h3 b3
  have Hx : Hid (leNat (l.take 4) = x0 + 256 * (x1 + 256 * (x2 + 256 * x3))) := four_nat l h4 hx0 hx1 hx2 hx3
  clear hx0 hx1 hx2 hx3
  have l0 : 0 < l.length := by omega
  have l1 : (1 : Int) < (l.length : Int) := by omega
  have l2 : (2 : Int) < (l.length : Int) := by omega
  have l3 : (3 : Int) < (l.length : Int) := by omega
  go_wp2_with fail
  go_quiet (fail)
  go_wp2_with fail
  go_ret
  refine ⟨?_, nq, rfl⟩
  rw [Hx.out, ← four_or x0 x1 x2 x3 b0 b1 b2 b3]
  rfl

theorem below_drewN {B : Nat} {w w' : World} (h : Below B w w') (n : Nat) : Below B w (w'.drewN n) := ⟨h.os, h.tape, h.output, h.size, h.block⟩
/-- bytes without their first k -/
theorem cutB_run (b o n c k : Nat) (h1 : k ≤ n) (h2 : n ≤ c) : ∃ A' : Option Addr, (∀ W : World, (Instr.sliceAt 25 (.slice (some ⟨b, o, none⟩) n c) (some (.int .i64 (k : Int))) none none).run Tryd.prog W = .ok (.slice A' (n - k) (c - k)) W) ∧
    (∀ w B (l : List UInt8), l.length ≤ n → RB w B (some ⟨b, o, none⟩) l → RB w B A' (l.drop k)) ∧ A' ≠ none := by
  have h3 : (k : Int) ≤ (n : Int) := by omega
  by_cases h5 : k < c
  · refine ⟨some ⟨b, o + k, none⟩, fun W => ?_, fun w B l _ hr => hr.cutFlat k, by simp⟩
    have h4 : ¬ k = c := by omega
    have h6 : ¬ c = k := by omega
    simp [go_sem, h3, h4, h6, sliced, Addr.add]
  · refine ⟨some ⟨b, o, none⟩, fun W => ?_, fun w B l hl hr => ?_, by simp⟩
    · have h4 : c = k := by omega
      have h6 : n = k := by omega
      subst h4
      subst h6
      simp [go_sem, sliced]
    · rw [List.drop_eq_nil_of_le (by omega)]
      exact RB.nil _ _ _
section
set_option maxRecDepth 100000
set_option maxHeartbeats 4000000
theorem unsummed_any (A : Option Addr) (c : Nat) (l : List UInt8) (w : World) (ht : Tab w) (hr : RB w w.heap.size A l) (hl : l.length ≤ 1099511627776) (hc : l.length ≤ c) :
    Calls Tryd.prog 104 #[.slice A l.length c] w fun e w' => ∃ A' c', e = .returned (.tuple #[.slice A' ((unF l).getD []).length c', .bool (unF l).isSome]) ∧ RB w w.heap.size A' ((unF l).getD []) ∧ ((unF l).getD []).length ≤ c' ∧ (A' = none → c' = 0) ∧ Below w.heap.size w w' := by
  have hu : Hid (unF l = if 4 ≤ l.length ∧ leNat (l.take 4) = sumOf (l.drop 4) then some (l.drop 4) else none) := rfl
  generalize unF l = ul at hu ⊢
  by_cases h4 : 4 ≤ l.length
  · obtain ⟨b, o, rfl, hb⟩ := hr.flat (by omega)
    obtain ⟨A', hsl0, hA', hne⟩ := cutB_run b o l.length c 4 h4 hc
    have hsl : ∀ W : World, (Instr.sliceAt 25 (.slice (some ⟨b, o, none⟩) l.length c) (some (.int .i64 4)) none none).run Tryd.prog W = .ok (.slice A' (l.length - 4) (c - 4)) W := hsl0
    clear hsl0
    have hr' := hA' w w.heap.size l (Nat.le_refl _) hr
    have HN : Hid (∀ W, Below w.heap.size w W → Calls Tryd.prog 103 #[.slice (some ⟨b, o, none⟩) l.length c] W fun e w' => e = .returned (.int .u32 (leNat (l.take 4) : Nat)) ∧ ∃ n, w' = W.drewN n) := fun W hW => pnum_any _ c l W w.heap.size (hr.below hW) h4 hl
    have HSx : Hid (∀ W g, Cells W g 25 [.slice A' (l.length - 4) (c - 4)] → Below w.heap.size w W → Calls Tryd.prog 89 #[.slice (some ⟨g, 0, none⟩) 1 1] W fun e w' => e = .returned (.int .u32 (sumOf (l.drop 4) : Nat)) ∧ Below w.heap.size w w') := fun W g hWc hWb => by
      have hln : (l.drop 4).length = l.length - 4 := List.length_drop
      have hb1 : RBB W W.heap.size (some ⟨g, 0, none⟩) [l.drop 4] := fun k x hk => by
        have hk0 : k = 0 := by
          have := (List.getElem?_eq_some_iff.1 hk).1
          simp at this
          exact this
        subst hk0
        have e : x = l.drop 4 := by simpa using hk.symm
        subst e
        exact ⟨_, A', c - 4, rfl, hWc.lt, by rw [hln]; exact hWc.cell rfl, (hr'.below hWb).wide hWb.size, by rw [hln]; omega⟩
      have := sum_any (some ⟨g, 0, none⟩) 1 [l.drop 4] W W.heap.size (ht.below hWb ht.pos) hb1 (by simp) (by intro x hx; rw [List.mem_singleton] at hx; rw [hx, hln]; omega)
      refine Calls.mono (by simpa using this) ?_
      rintro e w' ⟨rfl, rfl⟩
      exact ⟨rfl, hWb⟩
    have HS : Hid (∀ W, Cells W w.heap.size 25 [.slice A' (l.length - 4) (c - 4)] ∧ Below w.heap.size w W → Calls Tryd.prog 89 #[.slice (some ⟨w.heap.size, 0, none⟩) 1 1] W fun e w' => e = .returned (.int .u32 (sumOf (l.drop 4) : Nat)) ∧ Below w.heap.size w w') := fun W h => HSx.out W _ h.1 h.2
    have Hr' := Lib.hid hr'
    have Hl4 : Hid ((l.drop 4).length = l.length - 4) := List.length_drop
    have hl4 : (4 : Int) ≤ (l.length : Int) := by omega
    have hl4' : ¬ (l.length : Int) < 4 := by omega
    have hl4c : ¬ c = 4 ∨ True := .inr trivial
    have Hcc : Hid (l.length ≤ c ∧ A' ≠ none) := ⟨hc, hne⟩
    have HN2 : Hid (∀ W, (W = w.drew ∨ W = (w.alloc (.cells #[.slice A' (l.length - 4) (c - 4)] 25)).drew) → Calls Tryd.prog 103 #[.slice (some ⟨b, o, none⟩) l.length c] W fun e w2 => e = .returned (.int .u32 (leNat (l.take 4) : Nat)) ∧
      Hid (∀ W3 g, ((W3 = w2.alloc (.cells #[.slice A' (l.length - 4) (c - 4)] 25) ∧ g = w2.heap.size) ∨ (W3 = w2 ∧ g = w.heap.size ∧ W = (w.alloc (.cells #[.slice A' (l.length - 4) (c - 4)] 25)).drew)) → Calls Tryd.prog 89 #[.slice (some ⟨g, 0, none⟩) 1 1] W3 fun e w' => e = .returned (.int .u32 (sumOf (l.drop 4) : Nat)) ∧ Below w.heap.size w w')) := fun W hor => by
      have hW : Below w.heap.size w W := by
        rcases hor with rfl | rfl
        · exact (Below.refl _ _).drew
        · exact ((Below.refl _ _).alloc (Nat.le_refl _) _).drew
      refine (HN.out W hW).mono ?_
      rintro e w2 ⟨rfl, n2, rfl⟩
      refine ⟨rfl, fun W3 g h3 => ?_⟩
      rcases h3 with ⟨rfl, rfl⟩ | ⟨rfl, rfl, rfl⟩
      · rcases hor with rfl | rfl
        · exact HS.out _ ⟨Cells.new (w.drew.drewN n2) _ _, (below_drewN (Below.refl w.heap.size w).drew n2).alloc (Nat.le_refl _) _⟩
        · exact HSx.out _ _ (Cells.new ((w.alloc (.cells #[.slice A' (l.length - 4) (c - 4)] 25)).drew.drewN n2) _ _) ((below_drewN hW n2).alloc hW.size _)
      · exact HS.out _ ⟨Cells.new w _ _, below_drewN hW n2⟩
    generalize hn : l.length = n at *
    generalize leNat (l.take 4) = p at *
    generalize sumOf (l.drop 4) = q at *
    have hu2 : Hid (ul = if p = q then some (l.drop 4) else none) := by
      show _ = _
      rw [hu.out]
      by_cases e : p = q
      · rw [if_pos ⟨h4, e⟩, if_pos e]
      · rw [if_neg (fun z => e z.2), if_neg e]
    generalize l.drop 4 = l' at *
    clear hr hr' ht hA' hn hu hb hl hne hc HS HSx HN
    by_cases hpq : p = q
    · have hu3 : ul = some l' := by rw [hu2.out, if_pos hpq]
      subst hu3
      subst hpq
      go_enter Tryd.func104, Tryd.ntmps104
      go_upto_region 1 with fail
      go_region_with (first
        | (go_at_call 103; refine (HN2.out _ (by first | exact .inl (by with_reducible rfl) | exact .inr (by with_reducible rfl))).mono ?_; rintro e w2 ⟨rfl, HS2⟩)
        | (go_at_call 89; refine (HS2.out _ _ (by first | exact .inl ⟨by with_reducible rfl, by with_reducible rfl⟩ | exact .inr ⟨by with_reducible rfl, by with_reducible rfl, by first | exact trivial | with_reducible rfl⟩)).mono ?_; rintro e w3 ⟨rfl, hb3⟩; have H3 := Lib.hid hb3; clear hb3))
      all_goals
        go_wp2_with fail
        exact bodyPost_ret (v := .tuple #[.slice A' (n - 4) (c - 4), .bool true]) (by simp [results, Tryd.results104, go_sem]) rfl ⟨A', c - 4, by show _ = Ending.returned (.tuple #[.slice A' l'.length (c - 4), .bool true]); rw [Hl4.out], Hr'.out, by show l'.length ≤ _; rw [Hl4.out]; have := Hcc.out.1; omega, fun e => absurd e Hcc.out.2, H3.out⟩
    · have hu3 : ul = none := by rw [hu2.out, if_neg hpq]
      have hpq' : ¬ (p : Int) = (q : Int) := by omega
      have hpq2 : ((p : Int) != (q : Int)) = true := by rw [bne_iff_ne]; exact hpq'
      subst hu3
      go_enter Tryd.func104, Tryd.ntmps104
      go_upto_region 1 with fail
      go_region_with (first
        | (go_at_call 103; refine (HN2.out _ (by first | exact .inl (by with_reducible rfl) | exact .inr (by with_reducible rfl))).mono ?_; rintro e w2 ⟨rfl, HS2⟩)
        | (go_at_call 89; refine (HS2.out _ _ (by first | exact .inl ⟨by with_reducible rfl, by with_reducible rfl⟩ | exact .inr ⟨by with_reducible rfl, by with_reducible rfl, by first | exact trivial | with_reducible rfl⟩)).mono ?_; rintro e w3 ⟨rfl, hb3⟩; have H3 := Lib.hid hb3; clear hb3))
      all_goals
        go_wp2_with fail
        exact bodyPost_ret (v := .tuple #[.slice none 0 0, .bool false]) (by simp [results, Tryd.results104, go_sem]) rfl ⟨none, 0, rfl, RB.nil _ _ _, Nat.zero_le _, fun _ => rfl, H3.out⟩
  · have hu3 : ul = none := by rw [hu.out, if_neg (fun z => h4 z.1)]
    subst hu3
    have hl4' : (l.length : Int) < 4 := by omega
    generalize hn : l.length = n at *
    clear hr hl hc ht hu hn
    go_enter Tryd.func104, Tryd.ntmps104
    go_upto_region 1 with fail
    go_quiet (fail)
    go_wp2_with fail
    exact bodyPost_ret (v := .tuple #[.slice none 0 0, .bool false]) (by simp [results, Tryd.results104, go_sem]) rfl ⟨none, 0, rfl, RB.nil _ _ _, Nat.zero_le _, fun _ => rfl, below_drewN (Below.refl _ _) nq⟩
end
end Go.Proofs.YtghcfmkmndldoaaDoor

/-
  ends: the foot and the index of a table, read.
-/
namespace Go.Proofs.YtghcfmkmndldoaaDoor
open Go.RowKit Go.Sort Go.Lib

/-- the error of a table's ends -/
def endsE (b : List UInt8) : Nat :=
  if b.length < 12 then 21 else
  if leNat (((b.drop (b.length - 12)).drop 8).take 4) ≠ sumOf ((b.drop (b.length - 12)).take 8) then 23 else
  if b.length - 12 < leNat ((b.drop (b.length - 12)).take 4) then 21 else
  if (unF ((b.take (b.length - 12)).drop (b.length - 12 - leNat ((b.drop (b.length - 12)).take 4)))).isSome = true then 0 else 23
/-- number(p[k:]) and Sum(q) in one region, whichever comes first -/
theorem sum_row (w : World) (g : Nat) (A : Option Addr) (n c : Nat) (l : List UInt8) (ht : Tab w) (hc : Cells w g 25 [.slice A n c]) (hr : RB w w.heap.size A l) (hn : n = l.length) (hl : l.length ≤ 1099511627776) (hcc : n ≤ c) :
    Calls Tryd.prog 89 #[.slice (some ⟨g, 0, none⟩) 1 1] w fun e w' => e = .returned (.int .u32 (sumOf l : Nat)) ∧ w' = w := by
  subst hn
  have hb1 : RBB w w.heap.size (some ⟨g, 0, none⟩) [l] := fun k x hk => by
    have hk0 : k = 0 := by
      have := (List.getElem?_eq_some_iff.1 hk).1
      simp at this
      exact this
    subst hk0
    have e : x = l := by simpa using hk.symm
    subst e
    exact ⟨_, A, c, rfl, hc.lt, hc.cell rfl, hr, hcc⟩
  have := sum_any (some ⟨g, 0, none⟩) 1 [l] w w.heap.size ht hb1 (by simp) (by simpa using hl)
  refine Calls.mono (by simpa using this) ?_
  rintro e w' ⟨rfl, rfl⟩
  exact ⟨rfl, rfl⟩
theorem cutB_lt (b o n c k : Nat) (h1 : k ≤ n) (h2 : k < c) (W : World) : (Instr.sliceAt 25 (.slice (some ⟨b, o, none⟩) n c) (some (.int .i64 (k : Int))) none none).run Tryd.prog W = .ok (.slice (some ⟨b, o + k, none⟩) (n - k) (c - k)) W := by
  have h3 : (k : Int) ≤ (n : Int) := by omega
  have h4 : ¬ k = c := by omega
  have h6 : ¬ c = k := by omega
  simp [go_sem, h3, h4, h6, sliced, Addr.add]
/-- a number read, and a sum taken over a row that is laid ahead of it or behind it -/
theorem num_sum {V2 : Value} (w0 : World) (o : Obj) (V : Value) (p q : Nat) (hob : o = .cells #[V] 25)
    (HN : ∀ X, Below w0.heap.size w0 X → Calls Tryd.prog 103 #[V2] X fun e w' => e = .returned (.int .u32 (p : Int)) ∧ ∃ n, w' = X.drewN n)
    (HS : ∀ X g, Cells X g 25 [V] → Below w0.heap.size w0 X → Calls Tryd.prog 89 #[.slice (some ⟨g, 0, none⟩) 1 1] X fun e w' => e = .returned (.int .u32 (q : Int)) ∧ w' = X) :
    ∀ X, (X = w0.drew ∨ X = (w0.alloc o).drew) → Calls Tryd.prog 103 #[V2] X fun e w2 => e = .returned (.int .u32 (p : Int)) ∧
      Hid (∀ W3 g, ((W3 = w2.alloc o ∧ g = w2.heap.size) ∨ (W3 = w2 ∧ g = w0.heap.size ∧ X = (w0.alloc o).drew)) → Calls Tryd.prog 89 #[.slice (some ⟨g, 0, none⟩) 1 1] W3 fun e w' => e = .returned (.int .u32 (q : Int)) ∧ Below w0.heap.size w0 w') := fun X hor => by
  have hX : Below w0.heap.size w0 X := by
    rcases hor with rfl | rfl
    · exact (Below.refl _ _).drew
    · exact ((Below.refl _ _).alloc (Nat.le_refl _) _).drew
  refine (HN X hX).mono ?_
  rintro e w2 ⟨rfl, n2, rfl⟩
  refine ⟨rfl, fun W3 g h3 => ?_⟩
  rcases h3 with ⟨rfl, rfl⟩ | ⟨rfl, rfl, rfl⟩
  · have hb := (below_drewN hX n2).alloc (Nat.le_trans hX.size (Nat.le_refl _)) o
    refine (HS _ _ (by rw [hob]; exact Cells.new (X.drewN n2) _ _) hb).mono ?_
    rintro e w' ⟨rfl, rfl⟩
    exact ⟨rfl, hb⟩
  · have hb := below_drewN hX n2
    refine (HS _ _ (by rw [hob]; exact Cells.new w0 _ _) hb).mono ?_
    rintro e w' ⟨rfl, rfl⟩
    exact ⟨rfl, hb⟩
theorem leNat_lt4 (l : List UInt8) (h : l.length ≤ 4) : leNat l < 4294967296 := by
  have := leNat_lt l
  have h2 : 256 ^ l.length ≤ 256 ^ 4 := Nat.pow_le_pow_right (by omega) h
  omega
/-- what is told of a table's ends where there is no error -/
def EndsP (l : List UInt8) (w w' : World) (A1 A2 : Option Addr) (n1 n2 cnt er : Nat) : Prop := er = 0 → RB w w.heap.size A1 (l.take (l.length - 12 - leNat ((l.drop (l.length - 12)).take 4))) ∧ n1 = l.length - 12 - leNat ((l.drop (l.length - 12)).take 4) ∧ cnt = leNat (((l.drop (l.length - 12)).drop 4).take 4) ∧
  ∃ x, unF ((l.take (l.length - 12)).drop (l.length - 12 - leNat ((l.drop (l.length - 12)).take 4))) = some x ∧ n2 = x.length ∧ RB w' w'.heap.size A2 x
section
set_option maxRecDepth 100000
set_option maxHeartbeats 8000000
theorem ends_any (A : Option Addr) (c : Nat) (l : List UInt8) (w : World) (ht : Tab w) (hr : RB w w.heap.size A l) (hl : l.length ≤ 1099511627776) (hc : l.length ≤ c) :
    Calls Tryd.prog 67 #[.slice A l.length c] w fun e w' => ∃ (A1 A2 : Option Addr) (n1 n2 c1 c2 cnt : Nat), e = .returned (.tuple #[.slice A1 n1 c1, .slice A2 n2 c2, .int .u32 (cnt : Int), .int .i64 (endsE l : Nat)]) ∧ Below w.heap.size w w' ∧ n1 ≤ c1 ∧ n2 ≤ c2 ∧ (A1 = none → c1 = 0) ∧ (A2 = none → c2 = 0) ∧
      EndsP l w w' A1 A2 n1 n2 cnt (endsE l) := by
  have hE : Hid (endsE l = _) := (by rw [endsE] : endsE l = _)
  generalize endsE l = er at hE ⊢
  by_cases h12 : l.length < 12
  · have he : er = 21 := by rw [hE.out, if_pos h12]
    subst he
    have h12' : (l.length : Int) < 12 := by omega
    generalize l.length = n at *
    clear hE hr ht
    go_enter Tryd.func67, Tryd.ntmps67
    go_wp2_with fail
    exact bodyPost_ret (v := .tuple #[.slice none 0 0, .slice none 0 0, .int .u32 0, .int .i64 21]) (by simp [results, Tryd.results67, go_sem]) rfl ⟨none, none, 0, 0, 0, 0, 0, rfl, Below.refl _ _, Nat.le_refl _, Nat.le_refl _, fun _ => rfl, fun _ => rfl, fun h => by cases h⟩
  · obtain ⟨m, hm⟩ : ∃ m, l.length = m + 12 := ⟨l.length - 12, by omega⟩
    obtain ⟨b, o, rfl, hb⟩ := hr.flat (by omega)
    obtain ⟨d, rfl⟩ : ∃ d, c = m + d := ⟨c - m, by omega⟩
    have hd : 12 ≤ d := by omega
    have hsl1 : ∀ W : World, (Instr.sliceAt 25 (.slice (some ⟨b, o, none⟩) (m + 12) (m + d)) (some (.int .i64 (m : Int))) none none).run Tryd.prog W = .ok (.slice (some ⟨b, o + m, none⟩) 12 d) W := fun W => by
      have := cutB_lt b o (m + 12) (m + d) m (by omega) (by omega) W
      rw [Nat.add_sub_cancel_left, Nat.add_sub_cancel_left] at this
      exact this
    have hsl8 : ∀ W : World, (Instr.sliceAt 25 (.slice (some ⟨b, o + m, none⟩) 12 d) (some (.int .i64 8)) none none).run Tryd.prog W = .ok (.slice (some ⟨b, o + m + 8, none⟩) 4 (d - 8)) W := fun W => cutB_lt b (o + m) 12 d 8 (by omega) (by omega) W
    have hsl4 : ∀ W : World, (Instr.sliceAt 25 (.slice (some ⟨b, o + m, none⟩) 12 d) (some (.int .i64 4)) none none).run Tryd.prog W = .ok (.slice (some ⟨b, o + m + 4, none⟩) 8 (d - 4)) W := fun W => cutB_lt b (o + m) 12 d 4 (by omega) (by omega) W
    have hr1 := hr.cutFlat m
    have hln : (l.drop m).length = 12 := by rw [List.length_drop]; omega
    have hlm : l.length - 12 = m := by omega
    rw [hlm] at hE
    have HN8 : Hid (∀ X, Below w.heap.size w X → Calls Tryd.prog 103 #[.slice (some ⟨b, o + m + 8, none⟩) 4 (d - 8)] X fun e w' => e = .returned (.int .u32 (leNat (((l.drop m).drop 8).take 4) : Nat)) ∧ ∃ n, w' = X.drewN n) := fun X hX => by
      have h4 : ((l.drop m).drop 8).length = 4 := by rw [List.length_drop, hln]
      have := pnum_any (some ⟨b, o + m + 8, none⟩) (d - 8) ((l.drop m).drop 8) X w.heap.size ((hr1.cutFlat 8).below hX) (by omega) (by omega)
      rw [h4] at this
      exact this
    have HN4 : Hid (∀ X, Below w.heap.size w X → Calls Tryd.prog 103 #[.slice (some ⟨b, o + m + 4, none⟩) 8 (d - 4)] X fun e w' => e = .returned (.int .u32 (leNat (((l.drop m).drop 4).take 4) : Nat)) ∧ ∃ n, w' = X.drewN n) := fun X hX => by
      have h4 : ((l.drop m).drop 4).length = 8 := by rw [List.length_drop, hln]
      have := pnum_any (some ⟨b, o + m + 4, none⟩) (d - 4) ((l.drop m).drop 4) X w.heap.size ((hr1.cutFlat 4).below hX) (by omega) (by omega)
      rw [h4] at this
      exact this
    have HN0 : Hid (∀ X, Below w.heap.size w X → Calls Tryd.prog 103 #[.slice (some ⟨b, o + m, none⟩) 12 d] X fun e w' => e = .returned (.int .u32 (leNat ((l.drop m).take 4) : Nat)) ∧ ∃ n, w' = X.drewN n) := fun X hX => by
      have := pnum_any (some ⟨b, o + m, none⟩) d (l.drop m) X w.heap.size (hr1.below hX) (by omega) (by omega)
      rw [hln] at this
      exact this
    have HS8 : Hid (∀ X g, Cells X g 25 [.slice (some ⟨b, o + m, none⟩) 8 d] → Below w.heap.size w X → Calls Tryd.prog 89 #[.slice (some ⟨g, 0, none⟩) 1 1] X fun e w' => e = .returned (.int .u32 (sumOf ((l.drop m).take 8) : Nat)) ∧ w' = X) := fun X g hX hb =>
      sum_row X g _ 8 d _ (ht.below hb ht.pos) hX (((hr1.take 8).below hb).wide hb.size) (by rw [List.length_take, hln]; rfl) (by rw [List.length_take, hln]; omega) (by omega)
    have HU : Hid (∀ (s : Nat) X, s ≤ m → Below w.heap.size w X → ∀ A', RB X X.heap.size A' ((l.take m).drop (m - s)) → True) := fun _ _ _ _ _ _ => trivial
    have hw1 : IntKind.i64.wrap ((m : Int) + 12 - 12) = (m : Int) := by rw [show ((m : Int) + 12) - 12 = (m : Int) by omega, IntKind.wrap_i64]; omega
    have hw2 : IntKind.i64.wrap (m : Int) = (m : Int) := by rw [IntKind.wrap_i64]; omega
    have hb12 : ¬ (m : Int) + 12 < 12 := by omega
    have h8d : 8 ≤ d := by omega
    have h8d' : (8 : Int) ≤ (d : Int) := by omega
    have hE2 : Hid (er = if leNat (((l.drop m).drop 8).take 4) ≠ sumOf ((l.drop m).take 8) then 23 else if m < leNat ((l.drop m).take 4) then 21 else if (unF ((l.take m).drop (m - leNat ((l.drop m).take 4)))).isSome = true then 0 else 23) := by show _ = _; rw [hE.out, if_neg h12]
    rw [hm]
    have Hr := Lib.hid hr
    have Ht := Lib.hid ht
    have Hm : Hid (l.length = m + 12 ∧ l.length ≤ 1099511627776 ∧ b < w.heap.size) := ⟨hm, hl, hb⟩
    clear hr ht hE hr1 hln HU hm hl h12 hb hlm hc
    go_enter Tryd.func67, Tryd.ntmps67
    go_upto_region 3 with fail
    go_quiet (fail)
    have hb0 : Below w.heap.size w (w.drewN nq) := below_drewN (Below.refl _ _) nq
    generalize w.drewN nq = w0 at hb0 ⊢
    have Hb0 := Lib.hid hb0
    clear hb0
    have HNS := Lib.hid (num_sum (V2 := .slice (some ⟨b, o + m + 8, none⟩) 4 (d - 8)) w0 (.cells #[.slice (some ⟨b, o + m, none⟩) 8 d] 25) (.slice (some ⟨b, o + m, none⟩) 8 d) _ _ rfl (fun X hX => HN8.out X (Hb0.out.trans (hX.mono Hb0.out.size))) (fun X g hX hb => HS8.out X g hX (Hb0.out.trans (hb.mono Hb0.out.size))))
    clear HN8 HS8
    have HSl : Hid (leNat ((l.drop m).take 4) < 4294967296) := leNat_lt4 _ (by rw [List.length_take]; omega)
    generalize leNat (((l.drop m).drop 8).take 4) = p at *
    generalize hSe : leNat ((l.drop m).take 4) = S at *
    have HSe := Lib.hid hSe
    clear hSe
    generalize sumOf ((l.drop m).take 8) = q at *
    go_upto_region 4 with fail
    by_cases hpq : p = q
    · subst hpq
      have hE3 : Hid (er = if m < S then 21 else if (unF ((l.take m).drop (m - S))).isSome = true then 0 else 23) := by show _ = _; rw [hE2.out]; simp
      clear hE2
      go_region_with (first
        | (go_at_call 103; refine (HNS.out _ (by first | exact .inl (by with_reducible rfl) | exact .inr (by with_reducible rfl))).mono ?_; rintro e w2 ⟨rfl, HS2⟩)
        | (go_at_call 89; refine (HS2.out _ _ (by first | exact .inl ⟨by with_reducible rfl, by with_reducible rfl⟩ | exact .inr ⟨by with_reducible rfl, by with_reducible rfl, by first | exact trivial | with_reducible rfl⟩)).mono ?_; rintro e w5 ⟨rfl, hb3⟩; have H3 : Hid (Below w.heap.size w w5) := Hb0.out.trans (hb3.mono Hb0.out.size); clear hb3))
      all_goals
        clear HNS
        have HN0w := Lib.hid (HN0.out w5 H3.out)
        have HN4w := HN4
        clear HN0
        go_upto_region 6 with fail
        go_wp2_with fail
        refine HN0w.out.mono ?_
        rintro e w6 ⟨rfl, n6, rfl⟩
        have H6 : Hid (Below w.heap.size w (w5.drewN n6)) := below_drewN H3.out n6
        generalize w5.drewN n6 = w6 at *
        have hw3 : IntKind.u64.wrap (m : Int) = (m : Int) := by rw [IntKind.wrap_u64]; have := Hm.out; omega
        have hw4 : IntKind.u64.wrap (S : Int) = (S : Int) := by rw [IntKind.wrap_u64]; have := HSl.out; omega
        by_cases hSm : m < S
        · have he : er = 21 := by rw [hE3.out, if_pos hSm]
          subst he
          have hSm' : (m : Int) < (S : Int) := by omega
          clear hE3
          go_wp2_with fail
          exact bodyPost_ret (v := .tuple #[.slice none 0 0, .slice none 0 0, .int .u32 0, .int .i64 21]) (by simp [results, Tryd.results67, go_sem]) rfl ⟨none, none, 0, 0, 0, 0, 0, rfl, H6.out, Nat.le_refl _, Nat.le_refl _, fun _ => rfl, fun _ => rfl, fun h => by cases h⟩
        · obtain ⟨t, rfl⟩ : ∃ t, m = t + S := ⟨m - S, by omega⟩
          have hE4 : Hid (er = if (unF ((l.take (t + S)).drop t)).isSome = true then 0 else 23) := by show _ = _; rw [hE3.out, if_neg hSm, Nat.add_sub_cancel]
          have hSm' : ¬ ((t : Int) + (S : Int)) < (S : Int) := by omega
          have hwt : IntKind.i64.wrap ((t : Int) + (S : Int) - (S : Int)) = (t : Int) := by rw [show (t : Int) + (S : Int) - (S : Int) = (t : Int) by omega, IntKind.wrap_i64]; have := Hm.out; omega
          have hwt2 : IntKind.i64.wrap (t : Int) = (t : Int) := by rw [IntKind.wrap_i64]; have := Hm.out; omega
          have hw5 : IntKind.u64.wrap ((t : Int) + (S : Int)) = (t : Int) + (S : Int) := by rw [IntKind.wrap_u64]; have := Hm.out; omega
          have hSm2 : (S : Int) ≤ (t : Int) + (S : Int) := by omega
          have hwS : IntKind.i64.wrap (S : Int) = (S : Int) := by rw [IntKind.wrap_i64]; have := HSl.out; omega
          have hslt : ∀ W : World, (Instr.sliceAt 25 (.slice (some ⟨b, o, none⟩) (t + S) (t + S + d)) (some (.int .i64 (t : Int))) none none).run Tryd.prog W = .ok (.slice (some ⟨b, o + t, none⟩) S (S + d)) W := fun W => by
            have := cutB_lt b o (t + S) (t + S + d) t (by omega) (by omega) W
            rw [Nat.add_sub_cancel_left, show t + S + d - t = S + d by omega] at this
            exact this
          have HUn : Hid (∀ X, Below w.heap.size w X → Calls Tryd.prog 104 #[.slice (some ⟨b, o + t, none⟩) S (S + d)] X fun e w' => ∃ A' c', e = .returned (.tuple #[.slice A' ((unF ((l.take (t + S)).drop t)).getD []).length c', .bool (unF ((l.take (t + S)).drop t)).isSome]) ∧ RB X X.heap.size A' ((unF ((l.take (t + S)).drop t)).getD []) ∧ ((unF ((l.take (t + S)).drop t)).getD []).length ≤ c' ∧ (A' = none → c' = 0) ∧ Below X.heap.size X w') := fun X hX => by
            have hlt : ((l.take (t + S)).drop t).length = S := by rw [List.length_drop, List.length_take]; have := Hm.out.1; omega
            have := unsummed_any (some ⟨b, o + t, none⟩) (S + d) ((l.take (t + S)).drop t) X (Ht.out.below hX Ht.out.pos) (((Hr.out.take (t + S)).cutFlat t).below hX |>.wide hX.size) (by have := Hm.out; omega) (by omega)
            rw [hlt] at this
            exact this
          clear hE3 hSm
          go_upto_region 10 with fail
          go_wp2_with fail
          refine (HUn.out _ H6.out).mono ?_
          rintro e w7 ⟨A7, c7, rfl, hr7, hc7, hA7, hb7⟩
          have H7 : Hid (Below w.heap.size w w7) := H6.out.trans (hb7.mono H6.out.size)
          have Hb7 : Below w6.heap.size w6 w7 := hb7
          rcases hun : unF ((l.take (t + S)).drop t) with _ | y
          · have he : er = 23 := by rw [hE4.out, hun]; rfl
            subst he
            clear hE4 HUn
            go_wp2_with fail
            exact bodyPost_ret (v := .tuple #[.slice none 0 0, .slice none 0 0, .int .u32 0, .int .i64 23]) (by simp [results, Tryd.results67, go_sem]) rfl ⟨none, none, 0, 0, 0, 0, 0, rfl, H7.out, Nat.le_refl _, Nat.le_refl _, fun _ => rfl, fun _ => rfl, fun h => by cases h⟩
          · have he : er = 0 := by rw [hE4.out, hun]; rfl
            subst he
            rw [hun] at hr7 hc7
            have HR7 : Hid (RB w6 w6.heap.size A7 y ∧ y.length ≤ c7 ∧ (A7 = none → c7 = 0)) := ⟨hr7, hc7, hA7⟩
            have HN7 : Hid (∀ X, (X = w7 ∨ X = w7.drew) → Calls Tryd.prog 103 #[.slice (some ⟨b, o + (t + S) + 4, none⟩) 8 (d - 4)] X fun e w' => e = .returned (.int .u32 (leNat (((l.drop (t + S)).drop 4).take 4) : Nat)) ∧ Below w.heap.size w w' ∧ Below w7.heap.size w7 w') := fun X hor => by
              have hX : Below w.heap.size w X := by
                rcases hor with rfl | rfl
                · exact H7.out
                · exact H7.out.drew
              refine (HN4.out X hX).mono ?_
              rintro e w' ⟨rfl, n9, rfl⟩
              refine ⟨rfl, below_drewN hX n9, ?_⟩
              rcases hor with rfl | rfl
              · exact below_drewN (Below.refl _ _) n9
              · exact below_drewN (Below.refl _ _).drew n9
            have hth : t ≤ t + S + d := by omega
            have hth' : (t : Int) ≤ ((t + S + d : Nat) : Int) := by omega
            clear hE4 HUn hr7 hc7 hA7 hb7 HN4
            go_upto_region 13 with fail
            have Hw67 : Hid (Below w6.heap.size w6 w7) := Hb7
            go_region_with (go_at_call 103; refine (HN7.out _ (by first | exact .inl (by with_reducible rfl) | exact .inr (by with_reducible rfl))).mono ?_; rintro e w8 ⟨rfl, hb8⟩; have H8 := Lib.hid hb8; clear hb8)
            all_goals
              have hlq : l.length - 12 = t + S := by have := Hm.out.1; omega
              go_wp2_with fail
              exact bodyPost_ret (v := .tuple #[.slice (some ⟨b, o, none⟩) t (t + S + d), .slice A7 y.length c7, .int .u32 (leNat (((l.drop (t + S)).drop 4).take 4) : Nat), .int .i64 0]) (by simp [results, Tryd.results67, go_sem]) rfl ⟨some ⟨b, o, none⟩, A7, t, y.length, t + S + d, c7, _, rfl, H8.out.1, hth, HR7.out.2.1, (fun e => by cases e), HR7.out.2.2, fun _ => ⟨by rw [hlq, HSe.out, Nat.add_sub_cancel]; exact Hr.out.take t, by rw [hlq, HSe.out, Nat.add_sub_cancel], by rw [hlq], y, by rw [hlq, HSe.out, Nat.add_sub_cancel]; exact hun, rfl, (HR7.out.1.below (Hw67.out.trans (H8.out.2.mono Hw67.out.size))).wide (Nat.le_trans Hw67.out.size H8.out.2.size)⟩⟩
    · have he : er = 23 := by rw [hE2.out, if_pos hpq]
      subst he
      have hpq' : ¬ (p : Int) = (q : Int) := by omega
      have hpq2 : ((p : Int) != (q : Int)) = true := by rw [bne_iff_ne]; exact hpq'
      go_region_with (first
        | (go_at_call 103; refine (HNS.out _ (by first | exact .inl (by with_reducible rfl) | exact .inr (by with_reducible rfl))).mono ?_; rintro e w2 ⟨rfl, HS2⟩)
        | (go_at_call 89; refine (HS2.out _ _ (by first | exact .inl ⟨by with_reducible rfl, by with_reducible rfl⟩ | exact .inr ⟨by with_reducible rfl, by with_reducible rfl, by first | exact trivial | with_reducible rfl⟩)).mono ?_; rintro e w5 ⟨rfl, hb3⟩; have H3 : Hid (Below w.heap.size w w5) := Hb0.out.trans (hb3.mono Hb0.out.size); clear hb3))
      all_goals
        go_wp2_with fail
        exact bodyPost_ret (v := .tuple #[.slice none 0 0, .slice none 0 0, .int .u32 0, .int .i64 23]) (by simp [results, Tryd.results67, go_sem]) rfl ⟨none, none, 0, 0, 0, 0, 0, rfl, H3.out, Nat.le_refl _, Nat.le_refl _, fun _ => rfl, fun _ => rfl, fun h => by cases h⟩
end
end Go.Proofs.YtghcfmkmndldoaaDoor

/-
  The second saying's fits.
-/
namespace Go.Proofs.YtghcfmkmndldoaaDoor
open Go.RowKit Go.Sort Go.Lib

section
set_option maxRecDepth 100000
set_option maxHeartbeats 4000000
theorem rfits_any (A : Option Addr) (c : Nat) (l : List UInt8) (w : World) (hr : RB w w.heap.size A l) (hl : l.length ≤ 1099511627776) (hc : l.length ≤ c) :
    Calls Tryd.prog 72 #[.slice A l.length c] w fun e w' => e = .returned (.bool (unF l).isSome) ∧ Below w.heap.size w w' := by
  have hu : Hid (unF l = if 4 ≤ l.length ∧ leNat (l.take 4) = sumOf (l.drop 4) then some (l.drop 4) else none) := rfl
  by_cases h4 : 4 ≤ l.length
  · obtain ⟨b, o, rfl, hb⟩ := hr.flat (by omega)
    obtain ⟨A', hsl0, hA', hne⟩ := cutB_run b o l.length c 4 h4 hc
    have hsl : ∀ W : World, (Instr.sliceAt 25 (.slice (some ⟨b, o, none⟩) l.length c) (some (.int .i64 4)) none none).run Tryd.prog W = .ok (.slice A' (l.length - 4) (c - 4)) W := hsl0
    have hr' := hA' w w.heap.size l (Nat.le_refl _) hr
    have hdl : (l.drop 4).length = l.length - 4 := List.length_drop
    have HS := refSum_any A' (c - 4) (l.drop 4) w w.heap.size hr' (by omega)
    rw [hdl] at HS
    have HS' := Lib.hid HS
    have HF := Lib.hid (readFour_any (some ⟨b, o, none⟩) c l w w.heap.size hr h4 hl)
    have hl4 : (l.length : Int) ≥ 4 := by omega
    have hl4i : (4 : Int) ≤ (l.length : Int) := by omega
    have hu2 : Hid ((unF l).isSome = decide (sumOf (l.drop 4) = leNat (l.take 4))) := by
      show _ = _
      rw [hu.out]
      by_cases e : leNat (l.take 4) = sumOf (l.drop 4)
      · rw [if_pos ⟨h4, e⟩, decide_eq_true e.symm]; rfl
      · rw [if_neg (fun z => e z.2), decide_eq_false (fun q => e q.symm)]; rfl
    generalize (unF l).isSome = ub at hu2 ⊢
    generalize hn : l.length = n at *
    generalize leNat (l.take 4) = p at *
    generalize sumOf (l.drop 4) = q at *
    clear hu hr hl hc hb hsl0 hA' hne hr' hdl HS hn h4
    by_cases hpq : q = p
    · obtain rfl : ub = true := by rw [hu2.out, decide_eq_true hpq]
      subst hpq
      have hqq : ((q : Int) == (q : Int)) = true := by simp
      clear hu2
      go_enter Tryd.func72, Tryd.ntmps72
      go_wp2_with fail
      refine HS'.out.mono ?_
      rintro e w' ⟨rfl, rfl⟩
      go_wp2_with fail
      refine HF.out.mono ?_
      rintro e w' ⟨rfl, m, rfl⟩
      go_wp2_with fail
      go_ret
      exact ⟨rfl, below_drewN (Below.refl _ _) m⟩
    · obtain rfl : ub = false := by rw [hu2.out, decide_eq_false hpq]
      have hqn : ¬ (q : Int) = (p : Int) := by omega
      have hqq : ((q : Int) == (p : Int)) = false := by rw [beq_eq_false_iff_ne]; exact hqn
      clear hu2
      go_enter Tryd.func72, Tryd.ntmps72
      go_wp2_with fail
      refine HS'.out.mono ?_
      rintro e w' ⟨rfl, rfl⟩
      go_wp2_with fail
      refine HF.out.mono ?_
      rintro e w' ⟨rfl, m, rfl⟩
      go_wp2_with fail
      go_ret
      exact ⟨rfl, below_drewN (Below.refl _ _) m⟩
  · have hu3 : unF l = none := by rw [hu.out, if_neg (fun z => h4 z.1)]
    rw [hu3]
    have hl4' : ¬ (l.length : Int) ≥ 4 := by omega
    generalize hn : l.length = n at *
    clear hr hl hc hu hn hu3
    go_enter Tryd.func72, Tryd.ntmps72
    go_wp2_with fail
    go_ret
    exact ⟨rfl, Below.refl _ _⟩
end
end Go.Proofs.YtghcfmkmndldoaaDoor

/-
  read: the fact at the front.
-/
namespace Go.Proofs.YtghcfmkmndldoaaDoor
open Go.RowKit Go.Sort Go.Lib

section
set_option maxRecDepth 100000
set_option maxHeartbeats 4000000
/-- what read answers: a fact, how many bytes, and an error that is none just where there is one -/
def rdE (l : List UInt8) : Nat :=
  let k := readBy l 1024
  if k.2.2 ≠ 0 then k.2.2 else
  let s := readNum (l.drop k.2.1)
  if s.2.2 ≠ 0 then s.2.2 else (readBy (l.drop (k.2.1 + s.2.1)) 1048576).2.2
def rdV (l : List UInt8) : Fc × Nat := (rdF l).getD ((⟨#[]⟩, 0, []), 0)
theorem rdE_iff (l : List UInt8) : rdE l = 0 ↔ (rdF l).isSome = true := by
  unfold rdE rdF
  dsimp only
  by_cases h1 : (readBy l 1024).2.2 = 0
  · by_cases h2 : (readNum (l.drop (readBy l 1024).2.1)).2.2 = 0
    · by_cases h3 : (readBy (l.drop ((readBy l 1024).2.1 + (readNum (l.drop (readBy l 1024).2.1)).2.1)) 1048576).2.2 = 0
      · simp [h1, h2, h3]
      · simp [h1, h2, h3]
    · simp [h1, h2]
  · simp [h1]
theorem set3 {w W : World} {B g : Nat} {t : TypeId} {a0 a1 a2 : Value} (h : Cells W g t [a0, a1, a2]) (hb : Below B w W) (hg : B ≤ g) (u0 u1 u2 : Value) :
    Cells (((W.setCell ⟨g, 0, none⟩ u0).setCell ⟨g, 1, none⟩ u1).setCell ⟨g, 2, none⟩ u2) g t [u0, u1, u2] ∧ Below B w (((W.setCell ⟨g, 0, none⟩ u0).setCell ⟨g, 1, none⟩ u1).setCell ⟨g, 2, none⟩ u2) :=
  ⟨((h.set 0 u0).set 1 u1).set 2 u2, ((hb.setCell hg _).setCell hg _).setCell hg _⟩
theorem read_any (A : Option Addr) (c : Nat) (l : List UInt8) (w : World) (hr : RB w w.heap.size A l) (hl : l.length ≤ 1099511627776) (hc : l.length ≤ c) (hA : A = none → c = 0) :
    Calls Tryd.prog 121 #[.slice A l.length c] w fun e w' => ∃ V, e = .returned (.tuple #[fcV (rdV l).1 V, .int .i64 ((rdV l).2 : Nat), .int .i64 (rdE l : Nat)]) ∧ Own w' w.heap.size V (rdV l).1.2.2 ∧ Below w.heap.size w w' := by
  obtain ⟨W, hW⟩ : ∃ W, W = w.alloc (.cells #[.string ⟨#[]⟩, .int .u64 0, .slice none 0 0] 40) := ⟨_, rfl⟩
  have hC : Cells W w.heap.size 40 [.string ⟨#[]⟩, .int .u64 0, .slice none 0 0] := by rw [hW]; exact Cells.new w _ _
  have hB : Below w.heap.size w W := by rw [hW]; exact (Below.refl _ _).alloc (Nat.le_refl _) _
  have hlt := hC.lt
  have HC : Hid (Cells W w.heap.size 40 [.string ⟨#[]⟩, .int .u64 0, .slice none 0 0] ∧ Below w.heap.size w W ∧ w.heap.size < W.heap.size) := ⟨hC, hB, hlt⟩
  have Hr := Lib.hid hr
  have HK := Lib.hid (readBy_any A c l 1024 W ((hr.below hB).wide hB.size) hl hc hA (by omega))
  have hE : Hid (rdE l = _) := (by rw [rdE] : rdE l = _)
  have hV : Hid (rdV l = (rdF l).getD ((⟨#[]⟩, 0, []), 0)) := rfl
  have hF : Hid (rdF l = _) := (by rw [rdF] : rdF l = _)
  have hok := Lib.hid (@readBy_ok l 1024)
  generalize rdE l = eo at hE ⊢
  generalize rdV l = vo at hV ⊢
  generalize rdF l = fo at hF hV
  generalize readBy l 1024 = kb at *
  obtain ⟨kx, kn, ke⟩ := kb
  dsimp only at hE hF hok HK
  clear hC hB hlt hr
  by_cases hk : ke = 0
  · subst hk
    obtain ⟨kp, kl, kk, kk2⟩ := hok.out rfl
    try dsimp only at kp kl kk kk2
    obtain ⟨b, o, rfl, hb⟩ := Hr.out.flat (by omega)
    obtain ⟨A2, hsl, hA2, hne⟩ := cutB_run b o l.length c kn kl hc
    have HN : Hid (∀ W1, Below w.heap.size w W1 → Calls Tryd.prog 92 #[.slice A2 (l.length - kn) (c - kn)] W1 fun e w' => e = .returned (rnVal (readNum (l.drop kn))) ∧ W1 = w') := fun W1 hW1 => by
      have := rn_any A2 (c - kn) (l.drop kn) W1 w.heap.size (hA2 W1 _ l (Nat.le_refl _) (Hr.out.below hW1)) (by rw [List.length_drop]; omega) (by rw [List.length_drop]; omega) (fun e => absurd e hne)
      rw [List.length_drop] at this
      exact this
    have hE2 : Hid (eo = if (readNum (l.drop kn)).2.2 ≠ 0 then (readNum (l.drop kn)).2.2 else (readBy (l.drop (kn + (readNum (l.drop kn)).2.1)) 1048576).2.2) := by show _ = _; rw [hE.out]; simp
    have hF2 : Hid (fo = if (readNum (l.drop kn)).2.2 ≠ 0 then none else if (readBy (l.drop (kn + (readNum (l.drop kn)).2.1)) 1048576).2.2 ≠ 0 then none else some ((⟨kx.toArray⟩, (readNum (l.drop kn)).1, (readBy (l.drop (kn + (readNum (l.drop kn)).2.1)) 1048576).1), kn + (readNum (l.drop kn)).2.1 + (readBy (l.drop (kn + (readNum (l.drop kn)).2.1)) 1048576).2.1)) := by show _ = _; rw [hF.out]; simp
    have hnk := Lib.hid (@readNum_ok (l.drop kn))
    generalize readNum (l.drop kn) = sn at *
    obtain ⟨sv, sl, se⟩ := sn
    try dsimp only at hE2 hF2 hnk
    have HN : Hid (∀ W1, Below w.heap.size w W1 → Calls Tryd.prog 92 #[.slice A2 (l.length - kn) (c - kn)] W1 fun e w' => e = .returned (.tuple #[.int .u64 (sv : Int), .int .i64 (sl : Int), .int .i64 (se : Int)]) ∧ W1 = w') := HN.out
    clear hE hF hok
    have Hb : Hid (b < w.heap.size ∧ l.length ≤ c ∧ kn ≤ l.length ∧ l.length ≤ 1099511627776) := ⟨hb, hc, kl, hl⟩
    by_cases hs : se = 0
    · subst hs
      obtain ⟨sp, _, sl2, sv2⟩ := hnk.out rfl
      try dsimp only at sp sl2 sv2
      rw [List.length_drop] at sl2
      obtain ⟨A3, hsl3, hA3, hne3⟩ := cutB_run b o l.length c (kn + sl) (by omega) hc
      have hsl4 : ∀ W : World, (Instr.sliceAt 25 (.slice (some ⟨b, o, none⟩) l.length c) (some (.int .i64 ((kn : Int) + (sl : Int)))) none none).run Tryd.prog W = .ok (.slice A3 (l.length - (kn + sl)) (c - (kn + sl))) W := fun W => by
        have := hsl3 W
        rw [Int.natCast_add] at this
        exact this
      have HV2 : Hid (∀ W1, Below w.heap.size w W1 → Calls Tryd.prog 105 #[.slice A3 (l.length - (kn + sl)) (c - (kn + sl)), .int .i64 1048576] W1 fun e w' => ∃ v, e = .returned (.tuple #[v, .int .i64 ((readBy (l.drop (kn + sl)) 1048576).2.1 : Nat), .int .i64 ((readBy (l.drop (kn + sl)) 1048576).2.2 : Nat)]) ∧ Own w' W1.heap.size v (readBy (l.drop (kn + sl)) 1048576).1 ∧ Below W1.heap.size W1 w') := fun W1 hW1 => by
        have := readBy_any A3 (c - (kn + sl)) (l.drop (kn + sl)) 1048576 W1 ((hA3 W1 _ l (Nat.le_refl _) (Hr.out.below hW1)).wide hW1.size) (by rw [List.length_drop]; omega) (by rw [List.length_drop]; omega) (fun e => absurd e hne3) (by omega)
        rw [List.length_drop] at this
        exact this
      have hE3 : Hid (eo = (readBy (l.drop (kn + sl)) 1048576).2.2) := by show _ = _; rw [hE2.out]; simp
      have hF3 : Hid (fo = if (readBy (l.drop (kn + sl)) 1048576).2.2 ≠ 0 then none else some ((⟨kx.toArray⟩, sv, (readBy (l.drop (kn + sl)) 1048576).1), kn + sl + (readBy (l.drop (kn + sl)) 1048576).2.1)) := by show _ = _; rw [hF2.out]; simp
      have hvk := Lib.hid (@readBy_ok (l.drop (kn + sl)) 1048576)
      generalize readBy (l.drop (kn + sl)) 1048576 = vb at *
      obtain ⟨vx, vl, ve⟩ := vb
      try dsimp only at hE3 hF3 hvk HV2
      have hw1 : IntKind.i64.wrap ((kn : Int) + (sl : Int)) = (kn : Int) + (sl : Int) := by rw [IntKind.wrap_i64]; omega
      clear hE2 hF2 hnk hsl3 hA2 hA3 hb
      by_cases hve : ve = 0
      · subst hve
        obtain ⟨vp, vl2, _, _⟩ := hvk.out rfl
        try dsimp only at vp vl2
        rw [List.length_drop] at vl2
        have hvo : vo = ((⟨kx.toArray⟩, sv, vx), kn + sl + vl) := by rw [hV.out, hF3.out]; simp
        have he0 : eo = 0 := hE3.out
        subst hvo
        subst he0
        have hw2 : IntKind.i64.wrap ((kn : Int) + (sl : Int) + (vl : Int)) = (kn : Int) + (sl : Int) + (vl : Int) := by rw [IntKind.wrap_i64]; omega
        clear hV hF3 hE3 hvk
        go_enter Tryd.func121, Tryd.ntmps121
        go_upto_region 1 with fail
        rw [← hW]
        clear hW
        go_wp2_with fail
        refine HK.out.mono ?_
        rintro e w1 ⟨kv, rfl, ho1, hb1⟩
        obtain ⟨A1, c1, rfl, _, hr1, _⟩ := ho1.rb
        have H1 : Hid (Cells w1 w.heap.size 40 [.string ⟨#[]⟩, .int .u64 0, .slice none 0 0] ∧ Below w.heap.size w w1) := ⟨HC.out.1.move (hb1.block _ HC.out.2.2), HC.out.2.1.trans (hb1.mono (Nat.le_of_lt HC.out.2.2))⟩
        have Hr1 := Lib.hid hr1
        clear ho1 hb1 HK hr1
        have hcv := text_run w1 w1.heap.size A1 kx c1 Hr1.out
        go_wp2_with fail
        refine (HN.out _ H1.out.2).mono ?_
        rintro e w2 ⟨rfl, rfl⟩
        go_wp2_with fail
        refine (HV2.out _ H1.out.2).mono ?_
        rintro e w3 ⟨v3, rfl, ho3, hb3⟩
        have hcv3 := text_run w3 w1.heap.size A1 kx c1 (Hr1.out.below hb3)
        obtain ⟨A4, c4, rfl, _⟩ := ho3.rb
        have H3 : Hid (Cells w3 w.heap.size 40 [.string ⟨#[]⟩, .int .u64 0, .slice none 0 0] ∧ Below w.heap.size w w3) := ⟨H1.out.1.move (hb3.block _ H1.out.1.lt), H1.out.2.trans (hb3.mono H1.out.2.size)⟩
        have Ho3 : Hid (Own w3 w.heap.size (.slice A4 vx.length c4) vx ∧ ∀ g, (Value.slice A4 vx.length c4).ownBlock = some g → g ≠ w.heap.size) := ⟨ho3.wide H1.out.2.size, fun g hg e => by have := (ho3.lt g hg).1; have := H1.out.1.lt; omega⟩
        clear ho3 hb3 HV2
        have f0 := H3.out.1.cell (i := 0) rfl
        have f1 := H3.out.1.cell (i := 1) rfl
        have f2 := H3.out.1.cell (i := 2) rfl
        have z0 := H3.out.1.frozen 0
        have z1 := H3.out.1.frozen 1
        have z2 := H3.out.1.frozen 2
        have hz := set3 H3.out.1 H3.out.2 (Nat.le_refl _) (.string ⟨kx.toArray⟩) (.int .u64 (sv : Int)) (.slice A4 vx.length c4)
        have Hoz : Hid (Own (((w3.setCell ⟨w.heap.size, 0, none⟩ (.string ⟨kx.toArray⟩)).setCell ⟨w.heap.size, 1, none⟩ (.int .u64 (sv : Int))).setCell ⟨w.heap.size, 2, none⟩ (.slice A4 vx.length c4)) w.heap.size (.slice A4 vx.length c4) vx) :=
          Ho3.out.1.move fun g hg => ((Below.heap_setCell _ _ _ _ (Ho3.out.2 g hg)).trans (Below.heap_setCell _ _ _ _ (Ho3.out.2 g hg))).trans (Below.heap_setCell _ _ _ _ (Ho3.out.2 g hg))
        go_wp2_with fail
        generalize (((w3.setCell ⟨w.heap.size, 0, none⟩ (.string ⟨kx.toArray⟩)).setCell ⟨w.heap.size, 1, none⟩ (.int .u64 (sv : Int))).setCell ⟨w.heap.size, 2, none⟩ (.slice A4 vx.length c4)) = WF at hz Hoz ⊢
        have q0 := hz.1.cell (i := 0) rfl
        have q1 := hz.1.cell (i := 1) rfl
        have q2 := hz.1.cell (i := 2) rfl
        exact bodyPost_ret (v := .tuple #[.agg #[.string ⟨kx.toArray⟩, .int .u64 (sv : Int), .slice A4 vx.length c4], .int .i64 ((kn + sl + vl : Nat) : Int), .int .i64 0]) (by simp [results, Tryd.results121, go_sem, q0, q1, q2]) rfl ⟨.slice A4 vx.length c4, rfl, Hoz.out, hz.2⟩
      · obtain rfl : eo = ve := hE3.out
        have hvo : vo = ((⟨#[]⟩, 0, []), 0) := by rw [hV.out, hF3.out, if_pos hve]; rfl
        subst hvo
        have hk' : ¬ (eo : Int) = 0 := by omega
        have hk2 : ((eo : Int) != 0) = true := by rw [bne_iff_ne]; exact hk'
        clear hV hF3 hE3 hvk
        go_enter Tryd.func121, Tryd.ntmps121
        go_upto_region 1 with fail
        rw [← hW]
        clear hW
        go_wp2_with fail
        refine HK.out.mono ?_
        rintro e w1 ⟨kv, rfl, ho1, hb1⟩
        obtain ⟨A1, c1, rfl, _, hr1, _⟩ := ho1.rb
        have H1 : Hid (Cells w1 w.heap.size 40 [.string ⟨#[]⟩, .int .u64 0, .slice none 0 0] ∧ Below w.heap.size w w1) := ⟨HC.out.1.move (hb1.block _ HC.out.2.2), HC.out.2.1.trans (hb1.mono (Nat.le_of_lt HC.out.2.2))⟩
        have Hr1 := Lib.hid hr1
        clear ho1 hb1 HK hr1
        go_wp2_with fail
        refine (HN.out _ H1.out.2).mono ?_
        rintro e w2 ⟨rfl, rfl⟩
        go_wp2_with fail
        refine (HV2.out _ H1.out.2).mono ?_
        rintro e w3 ⟨v3, rfl, ho3, hb3⟩
        obtain ⟨A4, c4, rfl, _⟩ := ho3.rb
        have H3 : Hid (Cells w3 w.heap.size 40 [.string ⟨#[]⟩, .int .u64 0, .slice none 0 0] ∧ Below w.heap.size w w3) := ⟨H1.out.1.move (hb3.block _ H1.out.1.lt), H1.out.2.trans (hb3.mono H1.out.2.size)⟩
        clear ho3 hb3 HV2
        have f0 := H3.out.1.cell (i := 0) rfl
        have f1 := H3.out.1.cell (i := 1) rfl
        have f2 := H3.out.1.cell (i := 2) rfl
        have z0 := H3.out.1.frozen 0
        have z1 := H3.out.1.frozen 1
        have z2 := H3.out.1.frozen 2
        have hz := set3 H3.out.1 H3.out.2 (Nat.le_refl _) (.string ⟨#[]⟩) (.int .u64 0) (.slice none 0 0)
        go_wp2_with fail
        generalize (((w3.setCell ⟨w.heap.size, 0, none⟩ (.string ⟨#[]⟩)).setCell ⟨w.heap.size, 1, none⟩ (.int .u64 0)).setCell ⟨w.heap.size, 2, none⟩ (.slice none 0 0)) = WF at hz ⊢
        have q0 := hz.1.cell (i := 0) rfl
        have q1 := hz.1.cell (i := 1) rfl
        have q2 := hz.1.cell (i := 2) rfl
        exact bodyPost_ret (v := .tuple #[.agg #[.string ⟨#[]⟩, .int .u64 0, .slice none 0 0], .int .i64 0, .int .i64 (eo : Int)]) (by simp [results, Tryd.results121, go_sem, q0, q1, q2]) rfl ⟨.slice none 0 0, rfl, Own.nil _ _, hz.2⟩
    · obtain rfl : eo = se := by rw [hE2.out, if_pos hs]
      have hvo : vo = ((⟨#[]⟩, 0, []), 0) := by rw [hV.out, hF2.out, if_pos hs]; rfl
      subst hvo
      have hk' : ¬ (eo : Int) = 0 := by omega
      have hk2 : ((eo : Int) != 0) = true := by rw [bne_iff_ne]; exact hk'
      clear hV hF2 hE2 hnk hA2 hb
      go_enter Tryd.func121, Tryd.ntmps121
      go_upto_region 1 with fail
      rw [← hW]
      clear hW
      go_wp2_with fail
      refine HK.out.mono ?_
      rintro e w1 ⟨kv, rfl, ho1, hb1⟩
      obtain ⟨A1, c1, rfl, _, hr1, _⟩ := ho1.rb
      have H1 : Hid (Cells w1 w.heap.size 40 [.string ⟨#[]⟩, .int .u64 0, .slice none 0 0] ∧ Below w.heap.size w w1) := ⟨HC.out.1.move (hb1.block _ HC.out.2.2), HC.out.2.1.trans (hb1.mono (Nat.le_of_lt HC.out.2.2))⟩
      have Hr1 := Lib.hid hr1
      clear ho1 hb1 HK hr1
      go_wp2_with fail
      refine (HN.out _ H1.out.2).mono ?_
      rintro e w2 ⟨rfl, rfl⟩
      have f0 := H1.out.1.cell (i := 0) rfl
      have f1 := H1.out.1.cell (i := 1) rfl
      have f2 := H1.out.1.cell (i := 2) rfl
      have z0 := H1.out.1.frozen 0
      have z1 := H1.out.1.frozen 1
      have z2 := H1.out.1.frozen 2
      have hz := set3 H1.out.1 H1.out.2 (Nat.le_refl _) (.string ⟨#[]⟩) (.int .u64 0) (.slice none 0 0)
      go_wp2_with fail
      generalize (((w1.setCell ⟨w.heap.size, 0, none⟩ (.string ⟨#[]⟩)).setCell ⟨w.heap.size, 1, none⟩ (.int .u64 0)).setCell ⟨w.heap.size, 2, none⟩ (.slice none 0 0)) = WF at hz ⊢
      have q0 := hz.1.cell (i := 0) rfl
      have q1 := hz.1.cell (i := 1) rfl
      have q2 := hz.1.cell (i := 2) rfl
      exact bodyPost_ret (v := .tuple #[.agg #[.string ⟨#[]⟩, .int .u64 0, .slice none 0 0], .int .i64 0, .int .i64 (eo : Int)]) (by simp [results, Tryd.results121, go_sem, q0, q1, q2]) rfl ⟨.slice none 0 0, rfl, Own.nil _ _, hz.2⟩
  · obtain rfl : eo = ke := by rw [hE.out, if_pos hk]
    have hvo : vo = ((⟨#[]⟩, 0, []), 0) := by rw [hV.out, hF.out, if_pos hk]; rfl
    subst hvo
    have hk' : ¬ (eo : Int) = 0 := by omega
    have hk2 : ((eo : Int) != 0) = true := by rw [bne_iff_ne]; exact hk'
    clear hE hV hF hok
    go_enter Tryd.func121, Tryd.ntmps121
    go_upto_region 1 with fail
    rw [← hW]
    clear hW
    go_wp2_with fail
    refine HK.out.mono ?_
    rintro e w1 ⟨kv, rfl, ho1, hb1⟩
    obtain ⟨A1, c1, rfl, _, hr1, _⟩ := ho1.rb
    have H1 : Hid (Cells w1 w.heap.size 40 [.string ⟨#[]⟩, .int .u64 0, .slice none 0 0] ∧ Below w.heap.size w w1) := ⟨HC.out.1.move (hb1.block _ HC.out.2.2), HC.out.2.1.trans (hb1.mono (Nat.le_of_lt HC.out.2.2))⟩
    have Hr1 := Lib.hid hr1
    clear ho1 hb1 HK hr1
    have f0 := H1.out.1.cell (i := 0) rfl
    have f1 := H1.out.1.cell (i := 1) rfl
    have f2 := H1.out.1.cell (i := 2) rfl
    have z0 := H1.out.1.frozen 0
    have z1 := H1.out.1.frozen 1
    have z2 := H1.out.1.frozen 2
    have hz := set3 H1.out.1 H1.out.2 (Nat.le_refl _) (.string ⟨#[]⟩) (.int .u64 0) (.slice none 0 0)
    go_wp2_with fail
    generalize (((w1.setCell ⟨w.heap.size, 0, none⟩ (.string ⟨#[]⟩)).setCell ⟨w.heap.size, 1, none⟩ (.int .u64 0)).setCell ⟨w.heap.size, 2, none⟩ (.slice none 0 0)) = WF at hz ⊢
    have q0 := hz.1.cell (i := 0) rfl
    have q1 := hz.1.cell (i := 1) rfl
    have q2 := hz.1.cell (i := 2) rfl
    exact bodyPost_ret (v := .tuple #[.agg #[.string ⟨#[]⟩, .int .u64 0, .slice none 0 0], .int .i64 0, .int .i64 (eo : Int)]) (by simp [results, Tryd.results121, go_sem, q0, q1, q2]) rfl ⟨.slice none 0 0, rfl, Own.nil _ _, hz.2⟩
end
end Go.Proofs.YtghcfmkmndldoaaDoor

/-
  Blocks in memory; the parts that the index says.
-/
namespace Go.Proofs.YtghcfmkmndldoaaDoor
open Go.RowKit Go.Sort Go.Lib

/-- a body cut into blocks -/
def cutsF : List (ByteArray × Nat) → List UInt8 → List (ByteArray × List UInt8)
  | [], _ => []
  | (k, n) :: ps, b => (k, b.take n) :: cutsF ps (b.drop n)
abbrev Pt := (ByteArray × List UInt8) × Value
def cellP (p : Pt) : List Value := [.string p.1.1, p.2]
def cellsP (ps : List Pt) : List Value := ps.flatMap cellP
theorem cellsP_append (ps qs : List Pt) : cellsP (ps ++ qs) = cellsP ps ++ cellsP qs := by simp [cellsP]
theorem cellsP_length (ps : List Pt) : (cellsP ps).length = ps.length * 2 := by
  induction ps with
  | nil => rfl
  | cons p ps ih => rw [show cellsP (p :: ps) = cellP p ++ cellsP ps from rfl, List.length_append, ih]; simp [cellP]; omega
theorem cellsP_get (ps : List Pt) : ∀ (k : Nat) (p : Pt), ps[k]? = some p → (cellsP ps)[k * 2]? = some (.string p.1.1) ∧ (cellsP ps)[k * 2 + 1]? = some p.2 := by
  induction ps with
  | nil => intro k p h; simp at h
  | cons q ps ih =>
    intro k p h
    rw [show cellsP (q :: ps) = .string q.1.1 :: q.2 :: cellsP ps from rfl]
    cases k with
    | zero => simp at h; subst h; exact ⟨rfl, rfl⟩
    | succ k =>
      have := ih k p (by simpa using h)
      rw [show (k + 1) * 2 = k * 2 + 1 + 1 by omega]
      exact this
/-- THE CALL OWNS v, a slice of parts, which holds qs; their blocks lie below B of world w0 -/
def RowQ (w : World) (base : Nat) (v : Value) (qs : List (ByteArray × List UInt8)) (w0 : World) (B : Nat) : Prop :=
  ∃ ps : List Pt, ps.map Prod.fst = qs ∧ w.ownsRow base 128 2 v ps.length (cellsP ps) ∧ ∀ p ∈ ps, Vb w0 B p.2 p.1.2
theorem info_part : (Tryd.prog.info? 128).map (fun i => (i.zero, i.size, i.bytes)) = some (some (.agg #[.string ⟨#[]⟩, .slice none 0 0]), 2, 40) := by kernel_rfl
section
variable {w w' w0 : World} {B base : Nat} {v v' V : Value} {qs : List (ByteArray × List UInt8)} {k : ByteArray} {x : List UInt8}
theorem RowQ.nil (w : World) (base : Nat) (w0 : World) (B : Nat) : RowQ w base (.slice none 0 0) [] w0 B := ⟨[], rfl, World.ownsRow_nil _ _ _ _, fun p h => by simp at h⟩
theorem RowQ.move (h : RowQ w base v qs w0 B) (hk : ∀ g, v.ownBlock = some g → w'.heap[g]? = w.heap[g]?) : RowQ w' base v qs w0 B := by
  obtain ⟨ps, e, ho, hv⟩ := h
  refine ⟨ps, e, ⟨ho.1, ?_⟩, hv⟩
  rcases ho.2 with q | ⟨g, cap, cur, hv, hg, hh, r⟩
  · exact .inl q
  · exact .inr ⟨g, cap, cur, hv, hg, (hk g (by rw [hv]; rfl)).trans hh, r⟩
theorem RowQ.ge (h : RowQ w base v qs w0 B) : ∀ g, v.ownBlock = some g → base ≤ g ∧ g < w.heap.size := by
  obtain ⟨ps, e, ho, hv⟩ := h
  exact fun g hg => World.ownsRow.lt ho g hg
theorem RowQ.below (h : RowQ w base v qs w0 B) (hb : Below w.heap.size w w') : RowQ w' base v qs w0 B := h.move fun g hg => hb.block g (h.ge g hg).2
theorem RowQ.shape (h : RowQ w base v qs w0 B) : ∃ A c, v = .slice A qs.length c ∧ qs.length ≤ c := by
  obtain ⟨ps, e, ho, _⟩ := h
  have : qs.length = ps.length := by rw [← e, List.length_map]
  rcases ho.2 with ⟨rfl, h0⟩ | ⟨g, cap, cur, rfl, hb, hg, hn, _⟩
  · exact ⟨none, 0, by rw [this, h0], by omega⟩
  · exact ⟨_, _, by rw [this], by omega⟩
/-- append(v, one part) at a step of a region that draws its order -/
theorem step_part {ops : Array Oper} {K : Act → World → Prop} {E : Prop} {o : Oper} {a : Act} {Q : Exit → Act → World → Prop} (hgd : o.guard = none) (s y : Operand)
    (ho : o.op = .call { callee := .builtin .append, args := #[s, y], argTypes := #[124, 124] })
    (hs : a.eval s = v) (hrow : RowQ w base v qs w0 B) (g c : Nat) (hx : a.eval y = .slice (some ⟨g, 0, none⟩) 1 c) (hg : Cells w g 128 [.string k, V]) (hV : Vb w0 B V x) (hlen : qs.length + 1 ≤ 1099511627776) (hbase : base ≤ w.heap.size)
    (h : ∀ v' w', RowQ w' base v' (qs ++ [(k, x)]) w0 B → Below base w w' → K (a.put o.dst v') w') :
    if Region.wanted o (yielded ops a.tmps) = true then Oper.wp Tryd.prog o a w K Q else E := by
  have hw : Region.wanted o (yielded ops a.tmps) = true := by simp [Region.wanted, hgd]
  rw [if_pos hw]
  obtain ⟨ps, e, h1, h2⟩ := hrow
  have hl : qs.length = ps.length := by rw [← e, List.length_map]
  have hone : ∀ u ∈ [Value.string k, V], u.oneCell' = true := fun u hu => by
    rcases List.mem_cons.1 hu with rfl | hu
    · rfl
    · rw [List.mem_singleton] at hu
      rw [hu]
      exact hV.one
  obtain ⟨i0, hi0, hz0, hz1, hz2⟩ := info_parts info_part
  obtain ⟨v', w', hrun, r2, r3, _, r5⟩ := run_append_own_at (P := Tryd.prog) w base 124 o.type 128 i0 _ 2 40 Tryd.underlying124 hi0 hz0 hz1 hz2 rfl (by omega) v ps.length (cellsP ps) h1 ⟨g, 0, none⟩ 1 c [.string k, V]
    (by simp) (fun j u hj => by rw [add_flat, Nat.zero_add]; exact hg.cell hj) hone (by simp only [maxLen]; omega) (by omega) hbase
  unfold Oper.wp execOp
  simp only [ho, resolve, invoke, builtin, Sem.run_bind, Sem.run_pure, Result.andThen_ok, List.map_toArray, List.map_cons, List.map_nil, hs, hx]
  rw [show (Builtin.append_ #[124, 124] o.type #[v, .slice (some ⟨g, 0, none⟩) 1 c]).run Tryd.prog w = .ok v' w' from hrun]
  refine h v' w' ⟨ps ++ [((k, x), V)], by rw [List.map_append, e]; rfl, ?_, fun p hp => ?_⟩ ((Below.refl _ _).grown r3 hbase fun j hj => (World.ownsRow.lt h1 j hj).1)
  · rw [List.length_append, cellsP_append]
    exact r2
  · rcases List.mem_append.1 hp with hp | hp
    · exact h2 p hp
    · have : p = ((k, x), V) := by simpa using hp
      subst this
      exact hV
end
/-- bytes without their first k, the number unsigned -/
theorem cutU_run (b o n c k : Nat) (h1 : k ≤ n) (h2 : n ≤ c) : ∃ A' : Option Addr, (∀ W : World, (Instr.sliceAt 25 (.slice (some ⟨b, o, none⟩) n c) (some (.int .u64 (k : Int))) none none).run Tryd.prog W = .ok (.slice A' (n - k) (c - k)) W) ∧
    (∀ w B (l : List UInt8), l.length ≤ n → RB w B (some ⟨b, o, none⟩) l → RB w B A' (l.drop k)) ∧ A' ≠ none := by
  have h3 : (k : Int) ≤ (n : Int) := by omega
  by_cases h5 : k < c
  · refine ⟨some ⟨b, o + k, none⟩, fun W => ?_, fun w B l _ hr => hr.cutFlat k, by simp⟩
    have h4 : ¬ k = c := by omega
    have h6 : ¬ c = k := by omega
    simp [go_sem, h3, h4, h6, sliced, Addr.add]
  · refine ⟨some ⟨b, o, none⟩, fun W => ?_, fun w B l hl hr => ?_, by simp⟩
    · have h4 : c = k := by omega
      have h6 : n = k := by omega
      subst h4
      subst h6
      simp [go_sem, sliced]
    · rw [List.drop_eq_nil_of_le (by omega)]
      exact RB.nil _ _ _
/-- the first k bytes, and no more room -/
theorem cut3_run (b o n c k : Nat) (h0 : 0 < k) (h1 : k ≤ n) (h2 : n ≤ c) (W : World) : (Instr.sliceAt 25 (.slice (some ⟨b, o, none⟩) n c) none (some (.int .u64 (k : Int))) (some (.int .u64 (k : Int)))).run Tryd.prog W = .ok (.slice (some ⟨b, o, none⟩) k k) W := by
  have h3 : (k : Int) ≤ (c : Int) := by omega
  have h4 : ¬ k = 0 := by omega
  simp [go_sem, h3, h4, sliced, Addr.add]
end Go.Proofs.YtghcfmkmndldoaaDoor

/-
  parted: the blocks that the index says.
-/
namespace Go.Proofs.YtghcfmkmndldoaaDoor
open Go.RowKit Go.Sort Go.Lib

/-- where the loop of parted stands -/
structure PSt (w wr : World) (body index : List UInt8) (bv iv lv : Value) (br ir : List UInt8) (Ab Ai : Option Addr) (cb ci : Nat) (ok : List (ByteArray × Nat)) (oq : List (ByteArray × List UInt8)) : Prop where
  eb : bv = .slice Ab br.length cb
  ei : iv = .slice Ai ir.length ci
  lb : br.length ≤ cb
  li : ir.length ≤ ci
  ab : Ab = none → cb = 0
  ai : Ai = none → ci = 0
  rb : RB w w.heap.size Ab br
  ri : RB w w.heap.size Ai ir
  row : RowQ wr w.heap.size lv oq w w.heap.size
  parts : partsF index body.length = (partsF ir br.length).map (ok ++ ·)
  cuts : ∀ ps, cutsF (ok ++ ps) body = oq ++ cutsF ps br
  len : oq.length + ir.length ≤ index.length
  lenb : br.length ≤ body.length
  bel : Below w.heap.size w wr
def PartedP (body index : List UInt8) (w w' : World) (v : Value) : Prop := ∀ ps, partsF index body.length = some ps → RowQ w' w.heap.size v (cutsF ps body) w w.heap.size
section
set_option maxRecDepth 100000
set_option maxHeartbeats 8000000
theorem parted_any (A0 A1 : Option Addr) (c0 c1 : Nat) (body index : List UInt8) (w : World) (h0 : RB w w.heap.size A0 body) (h1 : RB w w.heap.size A1 index) (l0 : body.length ≤ c0) (l1 : index.length ≤ c1) (a0 : A0 = none → c0 = 0) (a1 : A1 = none → c1 = 0) (m0 : body.length ≤ 1099511627776) (m1 : index.length ≤ 1099511627776) :
    Calls Tryd.prog 68 #[.slice A0 body.length c0, .slice A1 index.length c1] w fun e w' => ∃ A n c, e = .returned (.tuple #[.slice A n c, .bool (partsF index body.length).isSome]) ∧ PartedP body index w w' (.slice A n c) ∧ Below w.heap.size w w' := by
  have H0 : Hid (PSt w w body index (.slice A0 body.length c0) (.slice A1 index.length c1) (.slice none 0 0) body index A0 A1 c0 c1 [] []) := ⟨rfl, rfl, l0, l1, a0, a1, h0, h1, RowQ.nil _ _ _ _, by simp, fun ps => rfl, by simp, Nat.le_refl _, Below.refl _ _⟩
  have Hm : Hid (body.length ≤ 1099511627776 ∧ index.length ≤ 1099511627776) := ⟨m0, m1⟩
  have HP : Hid (∀ w' v, PartedP body index w w' v = ∀ ps, partsF index body.length = some ps → RowQ w' w.heap.size v (cutsF ps body) w w.heap.size) := fun _ _ => rfl
  obtain ⟨po, hpo⟩ : ∃ po, po = partsF index body.length := ⟨_, rfl⟩
  rw [← hpo]
  have Hpo := Lib.hid hpo
  clear h0 h1 l0 l1 a0 a1 m0 m1 hpo
  go_enter Tryd.func68, Tryd.ntmps68
  go_wp2_with fail
  go_loopw [0, 1, 6] (fun bv iv lv wr => ∃ br ir Ab Ai cb ci ok oq, Hid (PSt w wr body index bv iv lv br ir Ab Ai cb ci ok oq)) (fun _ iv _ _ => lenS iv)
  case atStart => exact ⟨body, index, A0, A1, c0, c1, [], [], H0.out⟩
  case round =>
    obtain ⟨br, ir, Ab, Ai, cb, ci, ok, oq, hst⟩ := hrel
    obtain ⟨⟨⟩, ⟨⟩, _⟩ : _ ∧ _ ∧ True := ⟨hst.out.eb, hst.out.ei, trivial⟩
    obtain ⟨Al, cl, rfl, hcl⟩ := hst.out.row.shape
    obtain ⟨nb, hnb⟩ : ∃ nb, nb = br.length := ⟨_, rfl⟩
    obtain ⟨ni, hni⟩ : ∃ ni, ni = ir.length := ⟨_, rfl⟩
    rw [← hnb, ← hni]
    have Hn : Hid (nb = br.length ∧ ni = ir.length) := ⟨hnb, hni⟩
    by_cases hi0 : ni = 0
    · have hir : ir = [] := List.eq_nil_of_length_eq_zero (by omega)
      have hp : Hid (po = if br.length = 0 then some ok else none) := by
        show _ = _
        rw [Hpo.out, hst.out.parts, hir, partsF_nil]
        by_cases q : br.length = 0
        · rw [if_pos q, if_pos q]; simp
        · rw [if_neg q, if_neg q]; rfl
      have Hfin : Hid (PartedP body index w wr (.slice Al oq.length cl)) := fun ps hps => by
        rw [← Hpo.out, hp.out] at hps
        by_cases q : br.length = 0
        · rw [if_pos q] at hps
          cases hps
          have := hst.out.cuts []
          rw [List.append_nil] at this
          rw [this]
          have hb0 : cutsF [] br = [] := rfl
          rw [hb0, List.append_nil]
          exact hst.out.row
        · rw [if_neg q] at hps; cases hps
      have Hbel := Lib.hid hst.out.bel
      by_cases q : nb = 0
      · have hpo2 : po = some ok := by rw [hp.out, if_pos (by omega)]
        subst hpo2
        subst hi0
        subst q
        clear hst hnb hni hp hir Hpo
        go_wp2_with fail
        exact bodyPost_ret (v := .tuple #[.slice Al oq.length cl, .bool true]) (by simp [results, Tryd.results68, go_sem]) rfl ⟨Al, _, cl, rfl, Hfin.out, Hbel.out⟩
      · have hpo2 : po = none := by rw [hp.out, if_neg (by omega)]
        have q' : ¬ (nb : Int) = 0 := by omega
        have q2 : ((nb : Int) == 0) = false := by rw [beq_eq_false_iff_ne]; exact q'
        subst hpo2
        subst hi0
        clear hst hnb hni hp hir Hpo
        go_wp2_with fail
        exact bodyPost_ret (v := .tuple #[.slice Al oq.length cl, .bool false]) (by simp [results, Tryd.results68, go_sem]) rfl ⟨Al, _, cl, rfl, Hfin.out, Hbel.out⟩
    · have hir : ir ≠ [] := fun e => hi0 (by rw [hni, e]; rfl)
      have hi1 : (0 : Int) < (ni : Int) := by omega
      have HNone : Hid (entR ir br.length = none → po = none ∧ ∀ w' v, PartedP body index w w' v) := fun q => by
        have : po = none := by rw [Hpo.out, hst.out.parts, partsF_none hir q]; rfl
        exact ⟨this, fun w' v ps hps => by rw [← Hpo.out, this] at hps; cases hps⟩
      have HK := Lib.hid (readBy_any Ai ci ir 1024 wr ((hst.out.ri.below hst.out.bel).wide hst.out.bel.size) (by have := hst.out.len; have := Hm.out; omega) hst.out.li hst.out.ai (by omega))
      rw [← hni] at HK
      have hE : Hid (entR ir br.length = _) := (by rw [entR] : entR ir br.length = _)
      have hok := Lib.hid (@readBy_ok ir 1024)
      have Hir := Lib.hid hir
      generalize readBy ir 1024 = kb at *
      obtain ⟨kx, kn, ke⟩ := kb
      dsimp only at HK hE hok
      have Hst := hst
      clear hst hir hnb hni
      by_cases hk : ke = 0
      · subst hk
        obtain ⟨kp, kl, kk, kk2⟩ := hok.out rfl
        try dsimp only at kp kl kk kk2
        obtain ⟨bi, oi, rfl, hbi⟩ := Hst.out.ri.flat (by have := Hn.out; omega)
        have hri := Hst.out.ri
        have hli := Hst.out.li
        rw [← Hn.out.2] at kl hli
        obtain ⟨A2, hsl, hA2, hne⟩ := cutB_run bi oi ni ci kn kl hli
        have HN : Hid (∀ W1, Below w.heap.size w W1 → Calls Tryd.prog 92 #[.slice A2 (ni - kn) (ci - kn)] W1 fun e w' => e = .returned (rnVal (readNum (ir.drop kn))) ∧ W1 = w') := fun W1 hW1 => by
          have hni := Hn.out.2
          have hlen := Hst.out.len
          have hm := Hm.out.2
          have := rn_any A2 (ci - kn) (ir.drop kn) W1 w.heap.size (hA2 W1 _ ir (by omega) (hri.below hW1)) (by rw [List.length_drop]; omega) (by rw [List.length_drop]; omega) (fun e => absurd e hne)
          rw [List.length_drop, ← hni] at this
          exact this
        have hE2 : Hid (entR ir br.length = if (readNum (ir.drop kn)).2.2 ≠ 0 ∨ (readNum (ir.drop kn)).1 < 5 ∨ br.length < (readNum (ir.drop kn)).1 then none else some ((⟨kx.toArray⟩, (readNum (ir.drop kn)).1), kn + (readNum (ir.drop kn)).2.1)) := by show _ = _; rw [hE.out]; simp
        have hnk := Lib.hid (@readNum_ok (ir.drop kn))
        generalize readNum (ir.drop kn) = sn at *
        obtain ⟨sv, sl, se⟩ := sn
        try dsimp only at hE2 hnk
        have HN : Hid (∀ W1, Below w.heap.size w W1 → Calls Tryd.prog 92 #[.slice A2 (ni - kn) (ci - kn)] W1 fun e w' => e = .returned (.tuple #[.int .u64 (sv : Int), .int .i64 (sl : Int), .int .i64 (se : Int)]) ∧ W1 = w') := HN.out
        have Hk : Hid (0 < kn ∧ kn ≤ ni) := ⟨kp, kl⟩
        clear hE hok hA2 hri hbi kp kk kk2 hli
        by_cases hs : se = 0
        · subst hs
          obtain ⟨sp, sp5, sl2, sv2⟩ := hnk.out rfl
          try dsimp only at sp sl2 sv2
          rw [List.length_drop, ← Hn.out.2] at sl2
          by_cases h5 : sv < 5
          · obtain ⟨hpo2, hfin⟩ := HNone.out (by rw [hE2.out, if_pos (.inr (.inl h5))])
            have Hfin := Lib.hid hfin
            have h5' : (sv : Int) < 5 := by omega
            subst hpo2
            clear hE2 HNone hfin Hpo hnk
            go_wp2_with fail
            refine HK.out.mono ?_
            rintro e w2 ⟨kv, rfl, ho, hb⟩
            obtain ⟨A3, c3, rfl, _⟩ := ho.rb
            have H2 : Hid (Below w.heap.size w w2) := Hst.out.bel.trans (hb.mono Hst.out.bel.size)
            clear ho hb HK
            go_wp2_with fail
            refine (HN.out _ H2.out).mono ?_
            rintro e w3 ⟨rfl, rfl⟩
            go_wp2_with fail
            exact bodyPost_ret (v := .tuple #[.slice none 0 0, .bool false]) (by simp [results, Tryd.results68, go_sem]) rfl ⟨none, 0, 0, rfl, Hfin.out _ _, H2.out⟩
          · by_cases hbig : nb < sv
            · obtain ⟨hpo2, hfin⟩ := HNone.out (by rw [hE2.out, if_pos (.inr (.inr (by rw [← Hn.out.1]; exact hbig)))])
              have Hfin := Lib.hid hfin
              have h5' : ¬ (sv : Int) < 5 := by omega
              have hbig' : (sv : Int) > (nb : Int) := by omega
              have hwu : IntKind.u64.wrap (nb : Int) = (nb : Int) := by rw [IntKind.wrap_u64]; have := Hm.out; have := Hst.out.lenb; have := Hn.out; omega
              subst hpo2
              clear hE2 HNone hfin Hpo hnk
              go_wp2_with fail
              refine HK.out.mono ?_
              rintro e w2 ⟨kv, rfl, ho, hb⟩
              obtain ⟨A3, c3, rfl, _⟩ := ho.rb
              have H2 : Hid (Below w.heap.size w w2) := Hst.out.bel.trans (hb.mono Hst.out.bel.size)
              clear ho hb HK
              go_wp2_with fail
              refine (HN.out _ H2.out).mono ?_
              rintro e w3 ⟨rfl, rfl⟩
              go_wp2_with fail
              exact bodyPost_ret (v := .tuple #[.slice none 0 0, .bool false]) (by simp [results, Tryd.results68, go_sem]) rfl ⟨none, 0, 0, rfl, Hfin.out _ _, H2.out⟩
            · have hent : entR ir br.length = some ((⟨kx.toArray⟩, sv), kn + sl) := by rw [hE2.out, if_neg (by rw [← Hn.out.1]; omega)]
              have h5' : ¬ (sv : Int) < 5 := by omega
              have hbig' : ¬ (sv : Int) > (nb : Int) := by omega
              obtain ⟨bb, ob, rfl, hbb⟩ := Hst.out.rb.flat (by have := Hn.out; omega)
              have hlb := Hst.out.lb
              have hli := Hst.out.li
              have hrb := Hst.out.rb
              have hri := Hst.out.ri
              rw [← Hn.out.1] at hlb
              rw [← Hn.out.2] at hli
              have hsl3 := cut3_run bb ob nb cb sv (by omega) (by omega) hlb
              obtain ⟨Ab2, hsl4, hAb2, hneb⟩ := cutU_run bb ob nb cb sv (by omega) hlb
              obtain ⟨Ai2, hsl5, hAi2, hnei⟩ := cutB_run bi oi ni ci (kn + sl) (by omega) hli
              have hsl5 : ∀ W : World, (Instr.sliceAt 25 (.slice (some ⟨bi, oi, none⟩) ni ci) (some (.int .i64 ((kn : Int) + (sl : Int)))) none none).run Tryd.prog W = .ok (.slice Ai2 (ni - (kn + sl)) (ci - (kn + sl))) W := fun W => by
                have := hsl5 W
                rw [Int.natCast_add] at this
                exact this
              have hw1 : IntKind.i64.wrap ((kn : Int) + (sl : Int)) = (kn : Int) + (sl : Int) := by rw [IntKind.wrap_i64]; have := Hm.out; have := Hst.out.len; have := Hn.out; omega
              have hwu : IntKind.u64.wrap (nb : Int) = (nb : Int) := by rw [IntKind.wrap_u64]; have := Hm.out; have := Hst.out.lenb; have := Hn.out; omega
              have HVb : Hid (Vb w w.heap.size (.slice (some ⟨bb, ob, none⟩) sv sv) (br.take sv)) := ⟨_, sv, by rw [List.length_take, ← Hn.out.1, Nat.min_eq_left (by omega)], by rw [List.length_take]; omega, (fun e => by cases e), hrb.take sv⟩
              have HNew : Hid (∀ v4 w4 u1 u2, RowQ w4 w.heap.size v4 (oq ++ [(⟨kx.toArray⟩, br.take sv)]) w w.heap.size → Below w.heap.size w w4 → u1 = .slice Ab2 (nb - sv) (cb - sv) → u2 = .slice Ai2 (ni - (kn + sl)) (ci - (kn + sl)) →
                  PSt w w4 body index u1 u2 v4 (br.drop sv) (ir.drop (kn + sl)) Ab2 Ai2 (cb - sv) (ci - (kn + sl)) (ok ++ [(⟨kx.toArray⟩, sv)]) (oq ++ [(⟨kx.toArray⟩, br.take sv)])) := fun v4 w4 u1 u2 hrow hbel e1 e2 => by
                have n1 := Hn.out.1
                have n2 := Hn.out.2
                refine ⟨by rw [e1, List.length_drop, ← n1], by rw [e2, List.length_drop, ← n2], by rw [List.length_drop]; omega, by rw [List.length_drop]; omega, fun e => absurd e hneb, fun e => absurd e hnei, hAb2 w _ br (by omega) hrb, hAi2 w _ ir (by omega) hri, hrow, ?_, ?_, ?_, ?_, hbel⟩
                · rw [Hst.out.parts, partsF_some Hir.out hent, List.length_drop, Option.map_map]
                  congr 1
                  funext ps
                  simp
                · intro ps
                  rw [List.append_assoc, Hst.out.cuts, List.append_assoc]
                  rfl
                · rw [List.length_append, List.length_drop]
                  have := Hst.out.len
                  simp only [List.length_cons, List.length_nil]
                  omega
                · rw [List.length_drop]
                  have := Hst.out.lenb
                  omega
              have Hnum : Hid (oq.length + 1 ≤ 1099511627776) := by show _ ≤ _; have := Hst.out.len; have := Hm.out; have := Hn.out; omega
              have Hc : Hid (ni - (kn + sl) < ni) := by show _ < _; omega
              clear hE2 HNone Hpo hnk hent hlb hli hrb hri hAb2 hAi2 hbb sp5 sl2 sv2 sp
              go_upto_region 3 with fail
              go_wp2_with fail
              refine HK.out.mono ?_
              rintro e w2 ⟨kv, rfl, ho, hb⟩
              obtain ⟨A3, c3, rfl, _, hr3, _⟩ := ho.rb
              have H2 : Hid (Below w.heap.size w w2) := Hst.out.bel.trans (hb.mono Hst.out.bel.size)
              have Hr3 := Lib.hid hr3
              have Hrow2 : Hid (RowQ w2 w.heap.size (.slice Al oq.length cl) oq w w.heap.size) := Hst.out.row.below hb
              clear ho hb HK hr3 Hst
              go_wp2_with fail
              refine (HN.out _ H2.out).mono ?_
              rintro e w3 ⟨rfl, rfl⟩
              clear HN
              have hcv := text_run w2 w2.heap.size A3 kx c3 Hr3.out
              have hcv2 := text_run w2.drew w2.heap.size A3 kx c3 Hr3.out.drew
              obtain ⟨cap1, WA, hWA⟩ : ∃ cap1 WA, WA = w2.drew.alloc (.cells #[.string ⟨kx.toArray⟩, .slice (some ⟨bb, ob, none⟩) sv sv] 128) ∧ cap1 = 1 := ⟨_, _, rfl, rfl⟩
              have hbA : Below w2.heap.size w2 (w2.drew.alloc (.cells #[.string ⟨kx.toArray⟩, .slice (some ⟨bb, ob, none⟩) sv sv] 128)) := ((Below.refl w2.heap.size w2).drew).alloc (Nat.le_refl _) _
              have HrowA : Hid (RowQ (w2.drew.alloc (.cells #[.string ⟨kx.toArray⟩, .slice (some ⟨bb, ob, none⟩) sv sv] 128)) w.heap.size (.slice Al oq.length cl) oq w w.heap.size) := Hrow2.out.below hbA
              have HszA : Hid (w.heap.size ≤ (w2.drew.alloc (.cells #[.string ⟨kx.toArray⟩, .slice (some ⟨bb, ob, none⟩) sv sv] 128)).heap.size) := Nat.le_trans H2.out.size hbA.size
              have HbA : Hid (Below w.heap.size w (w2.drew.alloc (.cells #[.string ⟨kx.toArray⟩, .slice (some ⟨bb, ob, none⟩) sv sv] 128))) := H2.out.trans (hbA.mono H2.out.size)
              have HcA : Hid (Cells (w2.drew.alloc (.cells #[.string ⟨kx.toArray⟩, .slice (some ⟨bb, ob, none⟩) sv sv] 128)) w2.heap.size 128 [.string ⟨kx.toArray⟩, .slice (some ⟨bb, ob, none⟩) sv sv]) := Cells.new w2.drew _ _
              clear hbA hWA
              go_upto_region 9 with fail
              go_region_law (first | (go_must (refine step_part (by rfl) (.tmp 44) (.tmp 52) (by rfl) (by rfl) HrowA.out w2.heap.size 1 (by rfl) HcA.out HVb.out Hnum.out HszA.out ?_); intro v4 w4 r4 b4; have H4 : Hid (RowQ w4 w.heap.size v4 (oq ++ [(⟨kx.toArray⟩, br.take sv)]) w w.heap.size ∧ Below w.heap.size w w4) := ⟨r4, HbA.out.trans b4⟩; obtain ⟨A4, c4, e4, _⟩ := r4.shape; rw [List.length_append] at e4; subst e4; clear r4 b4))
              go_upto_region 10 with fail
              go_quiet (fail)
              go_wp2_with fail
              exact ⟨⟨br.drop sv, ir.drop (kn + sl), Ab2, Ai2, cb - sv, ci - (kn + sl), ok ++ [(⟨kx.toArray⟩, sv)], oq ++ [(⟨kx.toArray⟩, br.take sv)], Lib.hid (HNew.out (.slice A4 (oq.length + 1) c4) (w4.drewN nq) _ _ (RowQ.move (w' := w4.drewN nq) H4.out.1 fun _ _ => rfl) (below_drewN H4.out.2 nq) rfl rfl)⟩, Hc.out⟩
        · obtain ⟨hpo2, hfin⟩ := HNone.out (by rw [hE2.out, if_pos (.inl hs)])
          have Hfin := Lib.hid hfin
          have hk' : ¬ (se : Int) = 0 := by omega
          have hk2 : ((se : Int) != 0) = true := by rw [bne_iff_ne]; exact hk'
          subst hpo2
          clear hE2 HNone hfin Hpo hnk
          go_wp2_with fail
          refine HK.out.mono ?_
          rintro e w2 ⟨kv, rfl, ho, hb⟩
          obtain ⟨A3, c3, rfl, _⟩ := ho.rb
          have H2 : Hid (Below w.heap.size w w2) := Hst.out.bel.trans (hb.mono Hst.out.bel.size)
          clear ho hb HK
          go_wp2_with fail
          refine (HN.out _ H2.out).mono ?_
          rintro e w3 ⟨rfl, rfl⟩
          go_wp2_with fail
          exact bodyPost_ret (v := .tuple #[.slice none 0 0, .bool false]) (by simp [results, Tryd.results68, go_sem]) rfl ⟨none, 0, 0, rfl, Hfin.out _ _, H2.out⟩
      · obtain ⟨hpo2, hfin⟩ := HNone.out (by rw [hE.out, if_pos hk])
        have Hfin := Lib.hid hfin
        have hk' : ¬ (ke : Int) = 0 := by omega
        have hk2 : ((ke : Int) != 0) = true := by rw [bne_iff_ne]; exact hk'
        subst hpo2
        clear hE hok HNone hfin Hpo
        go_wp2_with fail
        refine HK.out.mono ?_
        rintro e w2 ⟨kv, rfl, ho, hb⟩
        obtain ⟨A2, c2, rfl, _⟩ := ho.rb
        have H2 : Hid (Below w.heap.size w w2) := Hst.out.bel.trans (hb.mono Hst.out.bel.size)
        clear ho hb HK
        go_wp2_with fail
        exact bodyPost_ret (v := .tuple #[.slice none 0 0, .bool false]) (by simp [results, Tryd.results68, go_sem]) rfl ⟨none, 0, 0, rfl, Hfin.out _ _, H2.out⟩
end
end Go.Proofs.YtghcfmkmndldoaaDoor

/-
  entry, written: what the index says of a block; a fact in bytes.
-/
namespace Go.Proofs.YtghcfmkmndldoaaDoor
open Go.RowKit Go.Sort Go.Lib

theorem bytL_length (l : List UInt8) : (bytL l).length = (numBytes l.length).length + l.length := by unfold bytL; rw [List.length_append]
theorem bytL_le (l : List UInt8) (h : l.length < two64) : (bytL l).length ≤ 10 + l.length := by rw [bytL_length]; have := numBytes_ten h; omega
theorem bytes_one (P A : Option Addr) (cp c : Nat) (p l : List UInt8) (W1 : World) (hp : RB W1 W1.heap.size P p) (hr : RB W1 W1.heap.size A l) (hc : l.length ≤ c) (hpl : p.length ≤ 4194304) (hl : l.length ≤ 4194304) :
    Calls Tryd.prog 101 #[.slice P p.length cp, .slice (some ⟨W1.heap.size, 0, none⟩) 1 1] (W1.alloc (.cells #[.slice A l.length c] 25)) fun e w' => ∃ b, e = .returned b ∧ Own w' W1.heap.size b (p ++ bytL l) ∧ Below W1.heap.size W1 w' := by
  have hB1 : Below W1.heap.size W1 (W1.alloc (.cells #[.slice A l.length c] 25)) := (Below.refl _ _).alloc (Nat.le_refl _) _
  have h := bytesG_any P cp p (some ⟨W1.heap.size, 0, none⟩) 1 [l] (W1.alloc (.cells #[.slice A l.length c] 25)) ((hp.below hB1).wide (by simp)) (by
    have := RBB.one W1 c 25 hr (Nat.le_refl _) hc
    simpa using this) hpl (by simpa using hl) (by simp)
  refine Calls.mono h ?_
  rintro e w' ⟨b, rfl, ho, hb⟩
  refine ⟨b, rfl, ?_, hB1.trans (hb.mono (by simp))⟩
  have := ho.wide (B := W1.heap.size) (by simp)
  simpa [bytL] using this
section
set_option maxRecDepth 100000
set_option maxHeartbeats 4000000
theorem entry_any (k : ByteArray) (n : Nat) (w : World) (hk : k.size ≤ 1048576) (hn : n ≤ 2199023255552) :
    Calls Tryd.prog 59 #[.string k, .int .i64 (n : Int)] w fun e w' => ∃ v, e = .returned v ∧ Own w' w.heap.size v (entF k n) ∧ Below w.heap.size w w' := by
  obtain ⟨cap, ob, hcv, hob⟩ := str_conv k
  have hwn : IntKind.u64.wrap (n : Int) = (n : Int) := by rw [IntKind.wrap_u64]; omega
  have hsz : k.data.toList.length = k.size := Array.length_toList
  have hb0 : Below w.heap.size w (w.drew.alloc (ob w)) := ((Below.refl w.heap.size w).drew).alloc (Nat.le_refl _) _
  have HB : Hid (Calls Tryd.prog 101 #[.slice none 0 0, .slice (some ⟨w.heap.size + 1, 0, none⟩) 1 1] ((w.drew.alloc (ob w)).alloc (.cells #[.slice (some ⟨w.heap.size, 0, none⟩) k.size (cap w)] 25)) fun e w' => ∃ b, e = .returned b ∧ Own w' w.heap.size b (bytL k.data.toList) ∧ Below w.heap.size w w') := by
    have hs1 : (w.drew.alloc (ob w)).heap.size = w.heap.size + 1 := by
      show (w.drew.alloc (ob w)).heap.size = w.drew.heap.size + 1
      simp
    have := bytes_one none (some ⟨w.heap.size, 0, none⟩) 0 (cap w) [] k.data.toList (w.drew.alloc (ob w)) (RB.nil _ _ _) (by rw [hs1]; exact (hob w).1) (by rw [hsz]; exact (hob w).2) (by simp) (by rw [hsz]; omega)
    rw [hs1, hsz] at this
    refine Calls.mono this ?_
    rintro e w' ⟨b, rfl, ho, hb⟩
    exact ⟨b, rfl, ho.wide (by omega), hb0.trans (hb.mono (by omega))⟩
  have HN := Lib.hid (fun A c l v W hr hB hl hv => number_any A c l v W W.heap.size hr hB hl hv)
  have Hn : Hid (n < two64 ∧ (bytL k.data.toList).length ≤ 1099511627776) := ⟨by rw [two64_eq]; omega, by have := bytL_le k.data.toList (by rw [two64_eq]; omega); omega⟩
  have He : Hid (entF k n = bytL k.data.toList ++ numBytes n) := rfl
  generalize entF k n = ef at He ⊢
  generalize bytL k.data.toList = bk at *
  clear hb0 hsz hob hk hn
  go_enter Tryd.func59, Tryd.ntmps59
  go_wp2_with fail
  refine HB.out.mono ?_
  rintro e w1 ⟨b1, rfl, ho1, hb1⟩
  obtain ⟨A1, c1, rfl, hc1, hr1, _⟩ := ho1.rb
  have H1 := Lib.hid hb1
  have Hr1 := Lib.hid hr1
  clear ho1 hb1 hr1 hc1 hcv
  go_wp2_with fail
  refine (HN.out A1 c1 bk n w1 Hr1.out (Nat.le_refl _) Hn.out.2 Hn.out.1).mono ?_
  rintro e w2 ⟨b2, rfl, ho2, hb2⟩
  have H2 : Hid (Own w2 w.heap.size b2 (bk ++ numBytes n) ∧ Below w.heap.size w w2) := ⟨ho2.wide H1.out.size, H1.out.trans (hb2.mono H1.out.size)⟩
  clear ho2 hb2
  go_wp2_with fail
  go_ret
  exact ⟨b2, rfl, by rw [He.out]; exact H2.out.1, H2.out.2⟩
end
end Go.Proofs.YtghcfmkmndldoaaDoor

/-
  written: a fact in bytes.
-/
namespace Go.Proofs.YtghcfmkmndldoaaDoor
open Go.RowKit Go.Sort Go.Lib

theorem RBB.belowB {w w' : World} {B : Nat} {A : Option Addr} {ls : List (List UInt8)} (h : RBB w B A ls) (hb : Below B w w') : RBB w' B A ls := fun k l hk => by
  obtain ⟨ad, A', c, e, hlt, hc, hr, hl⟩ := h k l hk
  exact ⟨ad, A', c, e, hlt, (hb.cell (by rw [add_block]; exact hlt)).trans hc, hr.below hb, hl⟩
section
set_option maxRecDepth 100000
set_option maxHeartbeats 4000000
theorem written_any (f : Fc) (V : Value) (w : World) (hV : Vb w w.heap.size V f.2.2) (hs : f.2.1 < two64) (hk : f.1.size ≤ 1048576) (hx : f.2.2.length ≤ 4194304) :
    Calls Tryd.prog 98 #[fcV f V] w fun e w' => ∃ v, e = .returned v ∧ Own w' w.heap.size v (wrF f) ∧ Below w.heap.size w w' := by
  obtain ⟨k, s, x⟩ := f
  dsimp only at hV hs hk hx
  unfold fcV
  dsimp only
  obtain ⟨A, c, rfl, hc, hA, hr⟩ := hV
  obtain ⟨cap, ob, hcv, hob⟩ := str_conv k
  obtain ⟨W, hW⟩ : ∃ W, W = w.alloc (.cells #[.string k, .int .u64 (s : Int), .slice A x.length c] 40) := ⟨_, rfl⟩
  have hC : Cells W w.heap.size 40 [.string k, .int .u64 (s : Int), .slice A x.length c] := by rw [hW]; exact Cells.new w _ _
  have hB : Below w.heap.size w W := by rw [hW]; exact (Below.refl _ _).alloc (Nat.le_refl _) _
  have hlt := hC.lt
  have p0 : W.cell? ⟨w.heap.size, 0, none⟩ = some (.string k) := hC.cell rfl
  have hsz : k.data.toList.length = k.size := Array.length_toList
  have hb0 : Below W.heap.size W (W.drew.alloc (ob W)) := ((Below.refl W.heap.size W).drew).alloc (Nat.le_refl _) _
  have HB : Hid (Calls Tryd.prog 101 #[.slice none 0 0, .slice (some ⟨W.heap.size + 1, 0, none⟩) 1 1] ((W.drew.alloc (ob W)).alloc (.cells #[.slice (some ⟨W.heap.size, 0, none⟩) k.size (cap W)] 25)) fun e w' => ∃ b, e = .returned b ∧ Own w' W.heap.size b (bytL k.data.toList) ∧ Below W.heap.size W w') := by
    have hs1 : (W.drew.alloc (ob W)).heap.size = W.heap.size + 1 := by
      show (W.drew.alloc (ob W)).heap.size = W.drew.heap.size + 1
      simp
    have := bytes_one none (some ⟨W.heap.size, 0, none⟩) 0 (cap W) [] k.data.toList (W.drew.alloc (ob W)) (RB.nil _ _ _) (by rw [hs1]; exact (hob W).1) (by rw [hsz]; exact (hob W).2) (by simp) (by rw [hsz]; omega)
    rw [hs1, hsz] at this
    refine Calls.mono this ?_
    rintro e w' ⟨b, rfl, ho, hb⟩
    exact ⟨b, rfl, ho.wide (by omega), hb0.trans (hb.mono (by omega))⟩
  have HC : Hid (Cells W w.heap.size 40 [.string k, .int .u64 (s : Int), .slice A x.length c] ∧ Below w.heap.size w W ∧ w.heap.size < W.heap.size ∧ RB w w.heap.size A x ∧ x.length ≤ c) := ⟨hC, hB, hlt, hr, hc⟩
  have Hn : Hid (s < two64 ∧ (bytL k.data.toList ++ numBytes s).length ≤ 4194304 ∧ (bytL k.data.toList).length ≤ 1099511627776 ∧ x.length ≤ 4194304) := by
    have h1 := bytL_le k.data.toList (by rw [two64_eq]; omega)
    have h2 := numBytes_ten hs
    exact ⟨hs, by rw [List.length_append]; omega, by omega, hx⟩
  have He : Hid (wrF (k, s, x) = bytL k.data.toList ++ (numBytes s ++ bytL x)) := rfl
  generalize wrF (k, s, x) = ef at He ⊢
  generalize bytL k.data.toList = bk at *
  clear hb0 hsz hob hk hs hx hr hC hB hlt hc hA
  go_enter Tryd.func98, Tryd.ntmps98
  go_upto_region 1 with fail
  rw [← hW]
  clear hW
  go_wp2_with fail
  refine HB.out.mono ?_
  rintro e w1 ⟨b1, rfl, ho1, hb1⟩
  obtain ⟨A1, c1, rfl, hc1, hr1, _⟩ := ho1.rb
  have hC1 : Cells w1 w.heap.size 40 [.string k, .int .u64 (s : Int), .slice A x.length c] := HC.out.1.move (hb1.block _ HC.out.2.2.1)
  have hb1w : Below w.heap.size w w1 := HC.out.2.1.trans (hb1.mono (Nat.le_of_lt HC.out.2.2.1))
  have Hcel : Hid (∀ W2, Below w1.heap.size w1 W2 → W2.cell? ⟨w.heap.size, 1, none⟩ = some (.int .u64 (s : Int)) ∧ W2.cell? ⟨w.heap.size, 2, none⟩ = some (.slice A x.length c)) := fun W2 hW2 => by
    have := hC1.move (hW2.block _ hC1.lt)
    exact ⟨this.cell rfl, this.cell rfl⟩
  have H1 : Hid (Below w.heap.size w w1) := hb1w
  have HB2 : Hid (∀ A2 c2 W g, Below w.heap.size w W → RB W W.heap.size A2 (bk ++ numBytes s) → RBB W W.heap.size (some ⟨g, 0, none⟩) [x] → Calls Tryd.prog 101 #[.slice A2 (bk.length + (numBytes s).length) c2, .slice (some ⟨g, 0, none⟩) 1 1] W fun e w3 => ∃ b3, e = .returned b3 ∧ Own w3 w.heap.size b3 ef ∧ Below w.heap.size w w3) := fun A2 c2 W g hbw hr2 hrr => by
    have := bytesG_any A2 c2 (bk ++ numBytes s) (some ⟨g, 0, none⟩) 1 [x] W hr2 hrr Hn.out.2.1 (by simpa using Hn.out.2.2.2) (by simp)
    rw [List.length_append] at this
    refine Calls.mono this ?_
    rintro e w3 ⟨b3, rfl, ho3, hb3⟩
    have e3 : bk ++ numBytes s ++ (numBytes [x].flatten.length ++ [x].flatten) = ef := by rw [He.out, List.append_assoc]; simp [bytL]
    rw [e3] at ho3
    exact ⟨b3, rfl, ho3.wide hbw.size, hbw.trans (hb3.mono hbw.size)⟩
  have HN : Hid (∀ W2, (W2 = w1.drew ∨ W2 = (w1.alloc (.cells #[.slice A x.length c] 25)).drew) → Calls Tryd.prog 100 #[.slice A1 bk.length c1, .int .u64 (s : Int)] W2 fun e w2 => ∃ A2 c2, e = .returned (.slice A2 (bk.length + (numBytes s).length) c2) ∧ (w2.cell? ⟨w.heap.size, 1, none⟩ = some (.int .u64 (s : Int)) ∧ w2.cell? ⟨w.heap.size, 2, none⟩ = some (.slice A x.length c)) ∧
      Hid (∀ W3 g, ((W3 = w2.alloc (.cells #[.slice A x.length c] 25) ∧ g = w2.heap.size) ∨ (W3 = w2 ∧ g = w1.heap.size ∧ W2 = (w1.alloc (.cells #[.slice A x.length c] 25)).drew)) → Calls Tryd.prog 101 #[.slice A2 (bk.length + (numBytes s).length) c2, .slice (some ⟨g, 0, none⟩) 1 1] W3 fun e w3 => ∃ b3, e = .returned b3 ∧ Own w3 w.heap.size b3 ef ∧ Below w.heap.size w w3)) := fun W2 hor => by
    have hW2 : Below w1.heap.size w1 W2 := by
      rcases hor with rfl | rfl
      · exact (Below.refl _ _).drew
      · exact ((Below.refl _ _).alloc (Nat.le_refl _) _).drew
    refine (number_any A1 c1 bk s W2 w1.heap.size (hr1.below hW2) hW2.size Hn.out.2.2.1 Hn.out.1).mono ?_
    rintro e w2 ⟨b2, rfl, ho2, hb2⟩
    obtain ⟨A2, c2, rfl, hc2, hr2, _⟩ := ho2.rb
    have hbw : Below w.heap.size w w2 := hb1w.trans ((hW2.trans (hb2.mono hW2.size)).mono hb1w.size)
    have hbA : Below w2.heap.size w2 (w2.alloc (.cells #[.slice A x.length c] 25)) := (Below.refl _ _).alloc (Nat.le_refl _) _
    refine ⟨A2, c2, by rw [List.length_append], Hcel.out w2 (hW2.trans (hb2.mono hW2.size)), fun W3 g hor3 => ?_⟩
    rcases hor3 with ⟨rfl, rfl⟩ | ⟨rfl, rfl, e⟩
    · refine HB2.out A2 c2 _ _ (hbw.trans (hbA.mono hbw.size)) ((hr2.below hbA).wide hbA.size) ?_
      have := RBB.one w2 c 25 (((HC.out.2.2.2.1).below hbw).wide hbw.size) (Nat.le_refl _) HC.out.2.2.2.2
      simpa using this
    · subst e
      refine HB2.out A2 c2 _ _ hbw hr2 ?_
      have h1 := RBB.one w1 c 25 (((HC.out.2.2.2.1).below hb1w).wide hb1w.size) (Nat.le_refl _) HC.out.2.2.2.2
      have h2 : RBB (w1.alloc (.cells #[.slice A x.length c] 25)).drew (w1.alloc (.cells #[.slice A x.length c] 25)).drew.heap.size (some ⟨w1.heap.size, 0, none⟩) [x] := by
        have e9 : (w1.alloc (.cells #[.slice A x.length c] 25)).drew.heap.size = w1.heap.size + 1 := by
          show (w1.alloc (.cells #[.slice A x.length c] 25)).heap.size = w1.heap.size + 1
          simp
        rw [e9]
        exact h1
      exact (h2.belowB hb2).wide hb2.size
  have q1 := Hcel.out w1 (Below.refl _ _)
  obtain ⟨q1, q2⟩ := q1
  obtain ⟨q5, q6⟩ := Hcel.out (w1.alloc (.cells #[.slice A x.length c] 25)) ((Below.refl _ _).alloc (Nat.le_refl _) _)
  clear ho1 hb1 hr1 hc1 hcv hC1 hb1w p0 HB
  go_upto_region 2 with fail
  go_region_law (first
    | (go_simp; go_at_call 100; refine (HN.out _ (by first | exact .inl (by with_reducible rfl) | exact .inr (by with_reducible rfl))).mono ?_; rintro e w2 ⟨A2, c2, rfl, ⟨q3, q4⟩, HBa⟩)
    | (go_simp; go_at_call 101; refine (HBa.out _ _ (by first | exact .inl ⟨by with_reducible rfl, by with_reducible rfl⟩ | exact .inr ⟨by with_reducible rfl, by with_reducible rfl, by with_reducible rfl⟩)).mono ?_; rintro e w3 ⟨b3, rfl, ho3, hb3⟩; have H3 : Hid (Own w3 w.heap.size b3 ef ∧ Below w.heap.size w w3) := ⟨ho3, hb3⟩; clear ho3 hb3))
  all_goals
    go_wp2_with fail
    go_ret
    exact ⟨_, rfl, H3.out.1, H3.out.2⟩
end
end Go.Proofs.YtghcfmkmndldoaaDoor

/-
  front: the block of the first facts.
-/
namespace Go.Proofs.YtghcfmkmndldoaaDoor
open Go.RowKit Go.Sort Go.Lib

theorem blkF_snoc (fs : List Fc) (f : Fc) : blkF (fs ++ [f]) = blkF fs ++ wrF f := by simp [blkF]
theorem blkF_cons (fs : List Fc) (f : Fc) : blkF (f :: fs) = wrF f ++ blkF fs := by simp [blkF]
theorem blkF_append (fs gs : List Fc) : blkF (fs ++ gs) = blkF fs ++ blkF gs := by simp [blkF]
theorem blkF_take_le (fs : List Fc) (n : Nat) : (blkF (fs.take n)).length ≤ (blkF fs).length := by
  have h : blkF fs = blkF (fs.take n) ++ blkF (fs.drop n) := by rw [← blkF_append, List.take_append_drop]
  rw [h, List.length_append]
  omega
/-- facts that may be written -/
def Fit (fs : List Fc) : Prop := (∀ f ∈ fs, f.1.size ≤ 1048576 ∧ f.2.2.length ≤ 4194304) ∧ (blkF fs).length ≤ 1073741824
theorem Own.len_eq {w : World} {base : Nat} {A : Option Addr} {n c : Nat} {l : List UInt8} (h : Own w base (.slice A n c) l) : n = l.length := by
  obtain ⟨A', c', e, _⟩ := h.rb
  cases e
  rfl
section
set_option maxRecDepth 100000
set_option maxHeartbeats 4000000
theorem front_any (A : Option Addr) (c block : Nat) (fs : List Fc) (w : World) (hl : fs.length ≤ 1099511627776) (hf : Fit fs) (hr : RF w w.heap.size A fs) (hb : block ≤ 1099511627776) :
    Calls Tryd.prog 57 #[.slice A fs.length c, .int .i64 (block : Int)] w fun e w' => ∃ v, e = .returned (.tuple #[v, .int .i64 (frontN block 0 fs : Nat)]) ∧ Own w' w.heap.size v (blkF (fs.take (frontN block 0 fs))) ∧ Below w.heap.size w w' := by
  have Hr := Lib.hid hr
  have Hf := Lib.hid hf
  have hl' : ((fs.length : Nat) : Int) ≤ 1099511627776 := by omega
  have hb' : (block : Int) ≤ 1099511627776 := by omega
  have Hlen : Hid (∀ k : Nat, k < fs.length → ∃ u, fs[k]? = some u) := fun k hk => ⟨_, List.getElem?_eq_getElem hk⟩
  obtain ⟨n, hn⟩ : ∃ n, n = fs.length := ⟨_, rfl⟩
  rw [← hn] at hl' Hlen ⊢
  have Hn := Lib.hid hn
  obtain ⟨m, hm⟩ : ∃ m, m = frontN block 0 fs := ⟨_, rfl⟩
  rw [← hm]
  have Hm := Lib.hid hm
  clear hr hl hn hf hb hm
  go_enter Tryd.func57, Tryd.ntmps57
  go_wp2_with fail
  go_loopw [6, 11] (fun bv iv wr => ∃ (i : Nat) (A' : Option Addr) (c' k : Nat), iv = .int .i64 (i : Int) ∧ i ≤ n ∧ bv = .slice A' k c' ∧ Hid (k = (blkF (fs.take i)).length) ∧ Hid (Own wr w.heap.size (.slice A' k c') (blkF (fs.take i))) ∧ Hid (m = i + frontN block k (fs.drop i)) ∧ Hid (Below w.heap.size w wr)) (fun _ iv _ => n - (intOf iv).toNat)
  case atStart => exact ⟨0, none, 0, 0, rfl, Nat.zero_le _, rfl, rfl, Own.nil _ _, by show m = 0 + frontN block 0 fs; rw [Hm.out, Nat.zero_add], Below.refl _ _⟩
  case round =>
    obtain ⟨i, A', c', k, rfl, hi, rfl, hk, hown, hfr, hbel⟩ := hrel
    by_cases hlt : i < n
    · obtain ⟨f, hfk⟩ := Hlen.out i hlt
      obtain ⟨b, o, V, rfl, hblt, c0, c1, c2, hV, hs⟩ := Hr.out.at_ hfk
      have c0 := (hbel.out.cell (p := ⟨b, o + i * 3, none⟩) hblt).trans c0
      have c1 := (hbel.out.cell (p := ⟨b, o + i * 3 + 1, none⟩) hblt).trans c1
      have c2 := (hbel.out.cell (p := ⟨b, o + i * 3 + 2, none⟩) hblt).trans c2
      have hlt' : (i : Int) < (n : Int) := by omega
      have hf1 := Hf.out.1 f (List.mem_of_getElem? hfk)
      have HX : Hid (f.2.1 < two64 ∧ f.1.size ≤ 1048576 ∧ f.2.2.length ≤ 4194304 ∧ Vb w w.heap.size V f.2.2) := ⟨hs, hf1.1, hf1.2, hV⟩
      have Htk : Hid (fs.take (i + 1) = fs.take i ++ [f]) := by show _ = _; rw [List.take_add_one, hfk]; rfl
      have hdr : fs.drop i = f :: fs.drop (i + 1) := by
        rw [List.drop_eq_getElem_cons (by have := Hn.out; omega)]
        congr 1
        rw [List.getElem?_eq_getElem (by have := Hn.out; omega)] at hfk
        exact Option.some.inj hfk
      have Hfr : Hid (m = i + (if block ≤ k + (wrF f).length then 1 else 1 + frontN block (k + (wrF f).length) (fs.drop (i + 1)))) := by
        show _ = _
        rw [hfr.out, hdr, frontN]
      have Hlim : Hid (k + (wrF f).length ≤ 1099511627776) := by
        have h1 := blkF_take_le fs (i + 1)
        rw [Htk.out, blkF_snoc, List.length_append, ← hk.out] at h1
        have := Hf.out.2
        show _ ≤ _
        omega
      obtain ⟨x, s, l⟩ := f
      dsimp only at c0 c1 c2 HX
      obtain ⟨A2, c3, hVe, hVc, hVA, hVr⟩ := HX.out.2.2.2
      subst hVe
      have hC1 : Cells (wr.alloc (.cells #[.string x, .int .u64 (s : Int), .slice A2 l.length c3] 40)) wr.heap.size 40 [.string x, .int .u64 (s : Int), .slice A2 l.length c3] := Cells.new _ _ _
      have hB1 : Below wr.heap.size wr (wr.alloc (.cells #[.string x, .int .u64 (s : Int), .slice A2 l.length c3] 40)) := (Below.refl _ _).alloc (Nat.le_refl _) _
      clear hV hs hf1 hdr hfr hk hVr hVc hVA Hlen
      go_upto_region 5 with fail
      generalize wr.alloc (.cells #[.string x, .int .u64 (s : Int), .slice A2 l.length c3] 40) = W1 at hC1 hB1 ⊢
      have d0 := hC1.cell (i := 0) rfl
      have d1 := hC1.cell (i := 1) rfl
      have d2 := hC1.cell (i := 2) rfl
      have hbw : Below w.heap.size w W1 := hbel.out.trans (hB1.mono hbel.out.size)
      have HW := Lib.hid (written_any (x, s, l) (.slice A2 l.length c3) W1 ((HX.out.2.2.2.below hbw).wide hbw.size) HX.out.1 HX.out.2.1 HX.out.2.2.1)
      unfold fcV at HW
      have H1 : Hid (Below w.heap.size w W1 ∧ Own W1 w.heap.size (.slice A' k c') (blkF (fs.take i))) := ⟨hbw, hown.out.below hB1⟩
      have Hk2 : Hid (blkF (fs.take i) ++ wrF (x, s, l) = blkF (fs.take (i + 1)) ∧ (blkF (fs.take i)).length = k) := ⟨by rw [Htk.out, blkF_snoc], (hown.out.len_eq).symm⟩
      generalize wrF (x, s, l) = wb at *
      clear hC1 hB1 hbw hown hbel c0 c1 c2 HX Htk
      go_wp2_with fail
      refine HW.out.mono ?_
      rintro e w2 ⟨b2, rfl, ho2, hb2⟩
      obtain ⟨A3, c4, rfl, hc4, hr3, _⟩ := ho2.rb
      have H2 : Hid (Below w.heap.size w w2 ∧ Own w2 w.heap.size (.slice A' k c') (blkF (fs.take i)) ∧ RB w2 w2.heap.size A3 wb) := ⟨H1.out.1.trans (hb2.mono H1.out.1.size), H1.out.2.below hb2, hr3⟩
      clear ho2 hb2 hc4 hr3
      go_upto_region 6 with (at_builtin; go_must (refine app_bytes rfl (.tmp 16) (.tmp 18) rfl w.heap.size _ _ rfl H2.out.2.1 _ A3 wb.length c4 wb rfl rfl H2.out.2.2 (by have := Hlim.out; have := Hk2.out.2; omega) H2.out.1.size ?_); intro v4 w4 ho4 hb4 _; obtain ⟨A4, c5, e4, _⟩ := ho4.rb; rw [List.length_append, Hk2.out.2] at e4; rw [Hk2.out.1] at ho4; subst e4; have H4 : Hid (Own w4 w.heap.size (.slice A4 (k + wb.length) c5) (blkF (fs.take (i + 1))) ∧ Below w.heap.size w w4) := ⟨ho4, H2.out.1.trans hb4⟩; clear ho4 hb4)
      have Hkk : Hid (k + wb.length = (blkF (fs.take (i + 1))).length) := by show _ = _; rw [← Hk2.out.1, List.length_append, Hk2.out.2]
      have hlimI : ((k + wb.length : Nat) : Int) ≤ 1099511627776 := by have := Hlim.out; omega
      by_cases hq : block ≤ k + wb.length
      · have hq' : (block : Int) ≤ ((k + wb.length : Nat) : Int) := by omega
        have Hme : Hid (m = i + 1) := by show _ = _; rw [Hfr.out, if_pos hq]
        generalize k + wb.length = kk at *
        go_wp2_with fail
        exact bodyPost_ret (v := .tuple #[.slice A4 kk c5, .int .i64 ((i + 1 : Nat) : Int)]) (by simp [results, Tryd.results57, go_sem]) rfl ⟨_, by rw [Hme.out], by rw [Hme.out]; exact H4.out.1, H4.out.2⟩
      · have hq' : ¬ (block : Int) ≤ ((k + wb.length : Nat) : Int) := by omega
        have Hme : Hid (m = i + 1 + frontN block (k + wb.length) (fs.drop (i + 1))) := by show _ = _; rw [Hfr.out, if_neg hq]; omega
        generalize k + wb.length = kk at *
        go_wp2_with fail
        exact ⟨⟨i + 1, A4, c5, kk, by go_num, by omega, rfl, Hkk, H4.out.1, Hme, H4.out.2⟩, by simp [intOf]; omega⟩
    · obtain rfl : i = n := by omega
      have Hall : Hid (fs.take i = fs ∧ fs.drop i = [] ∧ m = i) := by
        have h1 : fs.drop i = [] := List.drop_eq_nil_of_le (by have := Hn.out; omega)
        exact ⟨List.take_of_length_le (by have := Hn.out; omega), h1, by rw [hfr.out, h1, frontN, Nat.add_zero]⟩
      have Hown := hown
      have Hbel := hbel
      have hlt' : ¬ (i : Int) < (i : Int) := by omega
      clear hlt hown hbel hfr hk
      go_wp2_with fail
      exact bodyPost_ret (v := .tuple #[.slice A' k c', .int .i64 (i : Int)]) (by simp [results, Tryd.results57, go_sem]) rfl ⟨_, by rw [Hall.out.2.2], by rw [Hall.out.2.2]; exact Hown.out, Hbel.out⟩
end
end Go.Proofs.YtghcfmkmndldoaaDoor

/-
  Two byte slices of the call's own beside one another; a list of facts cut at its front; how long a table is.
-/
namespace Go.Proofs.YtghcfmkmndldoaaDoor
open Go.RowKit Go.Sort Go.Lib

theorem app_bytesG {w : World} {ops : Array Oper} {rest : List Oper} {o : Oper} {a : Act} {Q : Exit → Act → World → Prop} (hgd : o.guard = none) (s x : Operand)
    (ho : o.op = .call { callee := .builtin .append, args := #[s, x], argTypes := #[25, 25] })
    (base : Nat) (v : Value) (l : List UInt8) (hs : a.eval s = v) (hown : Own w base v l)
    (B : Nat) (A : Option Addr) (m c : Nat) (r : List UInt8) (hx : a.eval x = .slice A m c) (hm : m = r.length) (hr : RB w B A r)
    (hlen : l.length + r.length ≤ 140737488355327) (hbase : base ≤ w.heap.size)
    (h : ∀ v' w', Own w' base v' (l ++ r) → Below base w w' → w.grownBy w' v.ownBlock → (v'.ownBlock = v.ownBlock ∨ v'.ownBlock = some w.heap.size) → wpList Tryd.prog ops Q rest (a.put o.dst v') w') :
    wpList Tryd.prog ops Q (o :: rest) a w := by
  subst hm
  obtain ⟨i0, hi0, hz0, hz1, hz2⟩ := info_parts info8
  refine wpList_plain hgd fun K hK => ?_
  have run : ∃ v' w', (Builtin.append_ #[25, 25] o.type #[v, .slice A r.length c]).run Tryd.prog w = .ok v' w' ∧ Own w' base v' (l ++ r) ∧ w.grownBy w' v.ownBlock ∧ (v'.ownBlock = v.ownBlock ∨ v'.ownBlock = some w.heap.size) := by
    by_cases h0 : r.length = 0
    · obtain rfl : r = [] := List.eq_nil_of_length_eq_zero h0
      refine ⟨v, w, ?_, by simpa [Own] using hown, World.grownBy.refl w _, .inl rfl⟩
      rcases hown.2 with ⟨rfl, _⟩ | ⟨g, cap, cur, rfl, _, _, hnc, _⟩
      · cases A <;> simp [Builtin.append_, run_underlying Tryd.underlying25, sizeOf, typeInfo, hi0, Builtin.lenOf, Builtin.firstCells, loadCells, loadCellsFrom]
      · cases A <;> simp [Builtin.append_, run_underlying Tryd.underlying25, sizeOf, typeInfo, hi0, Builtin.lenOf, Builtin.firstCells, hnc, storeCells, loadCells, loadCellsFrom]
    · have hr0 : 0 < r.length := by omega
      obtain ⟨ad, rfl, _, _⟩ := hr.at_ hr0
      obtain ⟨v', w', hrun, h2, h3, _, h5⟩ := run_append_own_at (P := Tryd.prog) w base 25 o.type 5 i0 (.int .u8 0) 1 1 Tryd.underlying25 hi0 hz0 hz1 hz2 rfl (by omega) v l.length (bvs l) hown ad r.length c (bvs r)
        (by simp [bvs]) (fun j u hu => by
          simp only [bvs, List.getElem?_map, Option.map_eq_some_iff] at hu
          obtain ⟨y, hy, rfl⟩ := hu
          obtain ⟨ad', e, _, hc⟩ := hr j y hy
          cases e
          exact hc) (bvs_one r) (by simp only [maxLen]; omega) (by omega) hbase
      exact ⟨v', w', hrun, by simpa [Own, bvs] using h2, h3, h5⟩
  obtain ⟨v', w', hrun, h2, h3, h4⟩ := run
  unfold Oper.wp execOp
  simp only [ho, resolve, invoke, builtin, Sem.run_bind, Sem.run_pure, Result.andThen_ok, List.map_toArray, List.map_cons, List.map_nil, hs, hx, hrun]
  exact hK _ _ (h v' w' h2 ((Below.refl _ _).grown h3 hbase hown.ge) h3 h4)

/-- two byte slices of the call's own, in blocks of their own -/
structure Duo (w : World) (B : Nat) (u v : Value) (T X : List UInt8) : Prop where
  fst : Own w B u T
  snd : Own w B v X
  apart : ∀ g, u.ownBlock = some g → v.ownBlock ≠ some g
section
variable {w w' : World} {B : Nat} {u v u' v' : Value} {T X r : List UInt8}
theorem Duo.below (h : Duo w B u v T X) (hb : Below w.heap.size w w') : Duo w' B u v T X := ⟨h.fst.below hb, h.snd.below hb, h.apart⟩
theorem Duo.left (h : Duo w B u v T X) (ho : Own w' B u' (T ++ r)) (hg : w.grownBy w' u.ownBlock) (hu : u'.ownBlock = u.ownBlock ∨ u'.ownBlock = some w.heap.size) : Duo w' B u' v (T ++ r) X := by
  refine ⟨ho, h.snd.move fun g hgv => hg.block g (h.snd.lt g hgv).2 (fun e => h.apart g e.symm hgv), fun g hgu hgv => ?_⟩
  rcases hu with e | e
  · exact h.apart g (e ▸ hgu) hgv
  · rw [e] at hgu
    cases hgu
    have := (h.snd.lt _ hgv).2
    omega
theorem Duo.right (h : Duo w B u v T X) (ho : Own w' B v' (X ++ r)) (hg : w.grownBy w' v.ownBlock) (hv : v'.ownBlock = v.ownBlock ∨ v'.ownBlock = some w.heap.size) : Duo w' B u v' T (X ++ r) := by
  refine ⟨h.fst.move fun g hgu => hg.block g (h.fst.lt g hgu).2 (fun e => h.apart g hgu e.symm), ho, fun g hgu hgv => ?_⟩
  rcases hv with e | e
  · exact h.apart g hgu (e ▸ hgv)
  · rw [e] at hgv
    cases hgv
    have := (h.fst.lt _ hgu).2
    omega
theorem Duo.swap (h : Duo w B u v T X) : Duo w B v u X T := ⟨h.snd, h.fst, fun g h1 h2 => h.apart g h2 h1⟩
end
/-- a list of facts without its first k -/
theorem cut_run (b o k n c : Nat) (h1 : k ≤ n) (h2 : n ≤ c) : ∃ A' : Option Addr, (∀ W : World, (Instr.sliceAt 42 (.slice (some ⟨b, o, none⟩) n c) (some (.int .i64 (k : Int))) none none).run Tryd.prog W = .ok (.slice A' (n - k) (c - k)) W) ∧ (k < c → A' = some ⟨b, o + k * 3, none⟩) ∧ A' ≠ none := by
  have h3 : (k : Int) ≤ (n : Int) := by omega
  by_cases h5 : k < c
  · refine ⟨some ⟨b, o + k * 3, none⟩, fun W => ?_, fun _ => rfl, by simp⟩
    have h4 : ¬ k = c := by omega
    have h6 : ¬ c = k := by omega
    simp [go_sem, h3, h4, h6, sliced, Addr.add]
  · refine ⟨some ⟨b, o, none⟩, fun W => ?_, fun h => absurd h h5, by simp⟩
    have h4 : c = k := by omega
    have h6 : n = k := by omega
    subst h4
    subst h6
    simp [go_sem, sliced]
theorem RF.cutA {w : World} {B b o c k : Nat} {fs : List Fc} {A' : Option Addr} (h : RF w B (some ⟨b, o, none⟩) fs) (hc : fs.length ≤ c) (hA : k < c → A' = some ⟨b, o + k * 3, none⟩) : RF w B A' (fs.drop k) := by
  by_cases hk : k < fs.length
  · rw [hA (by omega)]
    exact h.cut k
  · rw [List.drop_eq_nil_of_le (by omega)]
    exact RF.nil _ _ _
theorem wrF_key (f : Fc) : f.1.size ≤ (wrF f).length ∧ f.2.2.length ≤ (wrF f).length := by
  unfold wrF bytL
  simp only [List.length_append]
  have : f.1.data.toList.length = f.1.size := Array.length_toList
  omega
theorem sumdF_length (b : List UInt8) : (sumdF b).length = 4 + b.length := by unfold sumdF; rw [List.length_append, leBytes_length]
theorem entF_length (k : ByteArray) (n : Nat) (hk : k.size < two64) (hn : n < two64) : (entF k n).length ≤ 20 + k.size := by
  unfold entF
  rw [List.length_append]
  have h1 := bytL_le k.data.toList (by rw [show k.data.toList.length = k.size from Array.length_toList]; exact hk)
  have h2 := numBytes_ten hn
  rw [show k.data.toList.length = k.size from Array.length_toList] at h1
  omega
theorem blkF_split (fs : List Fc) (n : Nat) : (blkF fs).length = (blkF (fs.take n)).length + (blkF (fs.drop n)).length := by
  rw [← List.length_append, ← blkF_append, List.take_append_drop]
theorem bodyF_len (block : Nat) : ∀ (n : Nat) (fs : List Fc), fs.length ≤ n → (blkF fs).length ≤ 1099511627776 → (bodyF block fs).1.length ≤ 4 * fs.length + (blkF fs).length ∧ (bodyF block fs).2.length ≤ 20 * fs.length + (blkF fs).length
  | 0, fs, hn, _ => by
    have : fs = [] := List.eq_nil_of_length_eq_zero (by omega)
    subst this
    rw [bodyF_nil]
    exact ⟨Nat.zero_le _, Nat.zero_le _⟩
  | n + 1, [], _, _ => by rw [bodyF_nil]; exact ⟨Nat.zero_le _, Nat.zero_le _⟩
  | n + 1, f :: fs, hn, hb => by
    rw [bodyF_cons]
    have hp := frontN_pos block 0 (l := f :: fs) (by simp)
    have hs := blkF_split (f :: fs) (frontN block 0 (f :: fs))
    have hd : ((f :: fs).drop (frontN block 0 (f :: fs))).length = (f :: fs).length - frontN block 0 (f :: fs) := List.length_drop
    obtain ⟨h1, h2⟩ := bodyF_len block n ((f :: fs).drop (frontN block 0 (f :: fs))) (by rw [hd]; simp at hn ⊢; omega) (by omega)
    have hkey : f.1.size ≤ (blkF ((f :: fs).take (frontN block 0 (f :: fs)))).length := by
      obtain ⟨m, hm⟩ : ∃ m, frontN block 0 (f :: fs) = m + 1 := ⟨frontN block 0 (f :: fs) - 1, by omega⟩
      rw [hm, List.take_succ_cons, blkF_cons, List.length_append]
      have := (wrF_key f).1
      omega
    have he := entF_length f.1 (4 + (blkF ((f :: fs).take (frontN block 0 (f :: fs)))).length) (by rw [two64_eq]; omega) (by rw [two64_eq]; omega)
    have hle := frontN_le block (f :: fs) 0
    simp only [List.length_append, sumdF_length]
    constructor <;> omega
end Go.Proofs.YtghcfmkmndldoaaDoor
