/-
  joined: a plain list with one more stretch behind it.
-/
import Derived.Test.YtghcfmkmndldoaaEl5
namespace Go.Proofs.Ytghcfmkmndldoaa
open Go.RowKit Go.Sort Go.Lib

theorem join_set (m : List Ec) (x : Ec) (h : ByteArray) : (m ++ [x]).set m.length (x.1, h, x.2.2) = m ++ [(x.1, h, x.2.2)] := by
  rw [List.set_append_right _ _ (Nat.le_refl _)]
  simp
theorem below_dr {B : Nat} {w w' : World} (h : Below B w w') (n : Nat) : Below B w (w'.drewN n) := ⟨h.os, h.tape, h.output, h.size, h.block⟩
section
set_option maxRecDepth 100000
set_option maxHeartbeats 4000000
theorem joined_any (es : List Ec) (e : Ec) (base : Nat) (v : Value) (w : World) (ho : OwnE w base v es) (hb : base ≤ w.heap.size) (hl : es.length < 1099511627776) :
    Calls Try.prog 63 #[v, eV e] w fun r w' => ∃ v', r = .returned v' ∧ OwnE w' base v' (joinE es e) ∧ Kept (fun k => v.ownBlock ≠ some k) w w' := by
  obtain ⟨KK, hKK⟩ : ∃ KK : Nat → Prop, KK = fun k => v.ownBlock ≠ some k := ⟨_, rfl⟩
  rw [← hKK]
  obtain ⟨A, c, rfl, hc, hA, hr, hge, hfl⟩ := ho.rd
  obtain ⟨W1, hW1⟩ : ∃ W1, W1 = w.alloc (.cells #[.string e.1, .string e.2.1, .int .u64 (e.2.2 : Int)] 32) := ⟨_, rfl⟩
  have hC : Cells W1 w.heap.size 32 (cellE e) := by rw [hW1]; exact Cells.new w _ _
  have hBel : Below w.heap.size w W1 := by rw [hW1]; exact (Below.refl _ _).alloc (Nat.le_refl _) _
  have HK : Hid (∀ k, ¬ KK k ↔ (Value.slice A es.length c).ownBlock = some k) := fun k => by rw [hKK]; exact Decidable.not_not
  clear hKK
  have HH : Hid (OwnE W1 base (.slice A es.length c) es ∧ Kept KK w W1 ∧ base ≤ W1.heap.size ∧ es.length < 1099511627776) := ⟨ho.below hBel, by rw [hW1]; exact (Kept.refl _ _).alloc _, Nat.le_trans hb hBel.size, hl⟩
  have hr1 := hr.below hBel
  have e0 := hC.cell (i := 0) rfl
  have e1 := hC.cell (i := 1) rfl
  have e2 := hC.cell (i := 2) rfl
  have hl' : (es.length : Int) ≤ 1099511627776 := by omega
  by_cases h0 : es = []
  · subst h0
    have Hst : Hid (∀ W : World, Below W1.heap.size W1 W → OwnE (W.alloc (.cells #[.string e.1, .string e.2.1, .int .u64 (e.2.2 : Int)] 32)) base (.slice A 0 c) [] ∧ Kept KK w (W.alloc (.cells #[.string e.1, .string e.2.1, .int .u64 (e.2.2 : Int)] 32)) ∧ base ≤ (W.alloc (.cells #[.string e.1, .string e.2.1, .int .u64 (e.2.2 : Int)] 32)).heap.size) := fun W q => by
      have q2 : Below W1.heap.size W1 (W.alloc (.cells #[.string e.1, .string e.2.1, .int .u64 (e.2.2 : Int)] 32)) := q.alloc q.size _
      exact ⟨HH.out.1.below q2, HH.out.2.1.below q2, Nat.le_trans HH.out.2.2.1 q2.size⟩
    have He : Hid (∀ W : World, RE (W.alloc (.cells #[.string e.1, .string e.2.1, .int .u64 (e.2.2 : Int)] 32)) (W.heap.size + 1) (some ⟨W.heap.size, 0, none⟩) [e]) := fun W => RE.one W e
    have hwr : IntKind.i64.wrap ((0 : Int) - 1) = -1 := by decide
    show Calls Try.prog 63 #[.slice A 0 c, eV e] w _
    rw [join_nil]
    unfold eV
    clear ho hr hge hfl hr1 hC hBel hc hl hl' HH hA
    obtain ⟨f1, f2, f3⟩ := e
    dsimp only at *
    go_enter Try.func63, Try.ntmps63
    go_upto_region 2 with fail
    rw [← hW1]
    clear hW1
    go_quiet (fail)
    have H9 := Lib.hid (Hst.out (W1.drewN nq) (below_dr (Below.refl _ _) nq))
    go_wp2_with (at_builtin; refine app_elisions (es := []) (fs := [(f1, f2, f3)]) rfl (.tmp 38) (.tmp 40) rfl rfl H9.out.1 1 1 rfl rfl (He.out _) (by simp) H9.out.2.2 ?_; intro v6 w6 r6 g6 _; have H6 : Hid (OwnE w6 base v6 [(f1, f2, f3)] ∧ Kept KK w w6) := ⟨r6, H9.out.2.1.grown g6 fun g e => (HK.out g).2 e⟩; clear r6 g6)
    go_ret
    exact ⟨_, rfl, H6.out⟩
  · obtain ⟨m, x, rfl⟩ := snoc_of h0
    obtain ⟨b, o, rfl, hblt, x0, x1, x2⟩ := hr1 m.length x (by simp)
    obtain ⟨b', hb', hfz⟩ := hfl _ rfl
    cases hb'
    have hfz1 : (W1.frozen? ⟨b, m.length * 3 + 1, none⟩ = false) := by
      obtain ⟨_, _, eA, _, _, _, _, hf⟩ := HH.out.1.rd
      cases eA
      obtain ⟨_, eb, hf⟩ := hf _ rfl
      cases eb
      exact hf _
    have Hset : Hid (∀ W : World, OwnE W base (.slice (some ⟨b, 0, none⟩) (m ++ [x]).length c) (m ++ [x]) → OwnE (W.setCell ⟨b, m.length * 3 + 1, none⟩ (.string e.2.1)) base (.slice (some ⟨b, 0, none⟩) (m ++ [x]).length c) (m ++ [(x.1, e.2.1, x.2.2)])) := fun W q => by
      have := q.setHi (i := m.length) (p := x) (by simp) e.2.1
      rwa [join_set] at this
    have hbb : Hid (base ≤ b) := hge _ _ rfl
    obtain ⟨k, hk⟩ : ∃ k, k = m.length := ⟨_, rfl⟩
    obtain ⟨n, hn⟩ : ∃ n, n = (m ++ [x]).length := ⟨_, rfl⟩
    have hnk : n = k + 1 := by rw [hn, hk]; simp
    rw [← hk] at x0 x1 x2 hfz1 Hset
    rw [← hn] at HH hl' Hset ⊢
    rw [Nat.zero_add] at x0 x1 x2
    have hwr : IntKind.i64.wrap ((n : Int) - 1) = (k : Int) := by rw [IntKind.wrap_i64]; omega
    have hge0 : (k : Int) ≥ 0 := by omega
    have hlt0 : (k : Int) < (n : Int) := by omega
    have Hn := Lib.hid hn
    clear hn hk hnk
    by_cases hq : x.2.1 = e.1 ∧ x.2.2 = e.2.2
    · have q1 : (x.2.1.toList == e.1.toList) = true := by rw [hq.1]; simp
      have q2 : ((x.2.2 : Int) == (e.2.2 : Int)) = true := by rw [hq.2]; simp
      have Hj : Hid (joinE (m ++ [x]) e = m ++ [(x.1, e.2.1, x.2.2)]) := by
        show _ = _
        rw [join_snoc, if_pos hq]
      unfold eV
      generalize e.1 = f1 at *
      generalize e.2.1 = f2 at *
      generalize e.2.2 = f3 at *
      clear hq ho hr hge hfl hr1 hC hBel h0 hfz hc hl
      go_enter Try.func63, Try.ntmps63
      go_upto_region 2 with fail
      rw [← hW1]
      clear hW1
      go_quiet (fail)
      go_wp2_with fail
      go_ret
      refine ⟨_, rfl, ?_, ?_⟩
      · rw [Hj.out]
        exact Hset.out _ HH.out.1
      · exact (HH.out.2.1.drewN nq).setCell (p := ⟨b, k * 3 + 1, none⟩) ((HK.out _).2 rfl) _
    · have Hj : Hid (joinE (m ++ [x]) e = (m ++ [x]) ++ [e]) := by
        show _ = _
        rw [join_snoc, if_neg hq]
      have Hst : Hid (∀ W : World, Below W1.heap.size W1 W → OwnE (W.alloc (.cells #[.string e.1, .string e.2.1, .int .u64 (e.2.2 : Int)] 32)) base (.slice (some ⟨b, 0, none⟩) n c) (m ++ [x]) ∧ Kept KK w (W.alloc (.cells #[.string e.1, .string e.2.1, .int .u64 (e.2.2 : Int)] 32)) ∧ base ≤ (W.alloc (.cells #[.string e.1, .string e.2.1, .int .u64 (e.2.2 : Int)] 32)).heap.size) := fun W q => by
        have q2 : Below W1.heap.size W1 (W.alloc (.cells #[.string e.1, .string e.2.1, .int .u64 (e.2.2 : Int)] 32)) := q.alloc q.size _
        exact ⟨HH.out.1.below q2, HH.out.2.1.below q2, Nat.le_trans HH.out.2.2.1 q2.size⟩
      have He : Hid (∀ W : World, RE (W.alloc (.cells #[.string e.1, .string e.2.1, .int .u64 (e.2.2 : Int)] 32)) (W.heap.size + 1) (some ⟨W.heap.size, 0, none⟩) [e]) := fun W => RE.one W e
      have Hlen : Hid ((m ++ [x]).length + 1 ≤ 1099511627776) := by show _ ≤ _; omega
      have hqq : (x.2.1.toList == e.1.toList) = false ∨ ((x.2.1.toList == e.1.toList) = true ∧ ((x.2.2 : Int) == (e.2.2 : Int)) = false) := by
        by_cases q1 : x.2.1.toList = e.1.toList
        · right
          refine ⟨by rw [q1]; simp, ?_⟩
          rw [beq_eq_false_iff_ne]
          intro q2
          exact hq ⟨array_inj q1, by omega⟩
        · left
          rw [beq_eq_false_iff_ne]
          exact q1
      unfold eV
      clear hq ho hr hge hfl hr1 hC hBel h0 hfz hc hl Hset
      obtain ⟨f1, f2, f3⟩ := e
      dsimp only at *
      rcases hqq with q1 | ⟨q1, q2⟩
      · go_enter Try.func63, Try.ntmps63
        go_upto_region 2 with fail
        rw [← hW1]
        clear hW1
        go_quiet (fail)
        have H9 := Lib.hid (Hst.out (W1.drewN nq) (below_dr (Below.refl _ _) nq))
        go_wp2_with (at_builtin; refine app_elisions (fs := [(f1, f2, f3)]) rfl (.tmp 38) (.tmp 40) rfl rfl H9.out.1 1 1 rfl rfl (He.out _) Hlen.out H9.out.2.2 ?_; intro v6 w6 r6 g6 _; have H6 : Hid (OwnE w6 base v6 (joinE (m ++ [x]) (f1, f2, f3)) ∧ Kept KK w w6) := ⟨by rw [Hj.out]; exact r6, H9.out.2.1.grown g6 fun g e => (HK.out g).2 e⟩; clear r6 g6)
        go_ret
        exact ⟨_, rfl, H6.out⟩
      · go_enter Try.func63, Try.ntmps63
        go_upto_region 2 with fail
        rw [← hW1]
        clear hW1
        go_quiet (fail)
        have H9 := Lib.hid (Hst.out (W1.drewN nq) (below_dr (Below.refl _ _) nq))
        go_wp2_with (at_builtin; refine app_elisions (fs := [(f1, f2, f3)]) rfl (.tmp 38) (.tmp 40) rfl rfl H9.out.1 1 1 rfl rfl (He.out _) Hlen.out H9.out.2.2 ?_; intro v6 w6 r6 g6 _; have H6 : Hid (OwnE w6 base v6 (joinE (m ++ [x]) (f1, f2, f3)) ∧ Kept KK w w6) := ⟨by rw [Hj.out]; exact r6, H9.out.2.1.grown g6 fun g e => (HK.out g).2 e⟩; clear r6 g6)
        go_ret
        exact ⟨_, rfl, H6.out⟩
end
end Go.Proofs.Ytghcfmkmndldoaa
