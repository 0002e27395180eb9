/-
  front: two stretches laid upon each other.
-/
import Derived.Test.YtghcfmkmndldoaaKEl3
import Derived.Lib.MinMax
namespace Go.Proofs.Ytghcfmkmndldoaa
open Go.RowKit Go.Sort Go.Lib

theorem run_max_K {P : Program} (w : World) (ts : Array TypeId) (t : TypeId) (x y : ByteArray) : (Builtin.max_ ts t #[.string x, .string y]).run P w = .ok (.string (maxK x y)) w := by
  unfold maxK
  cases h : Op.bytesLess x.toList y.toList <;> simp [Builtin.max_, Builtin.max2, Op.stringOp, asBool, h]
theorem run_min_K {P : Program} (w : World) (ts : Array TypeId) (t : TypeId) (x y : ByteArray) : (Builtin.min_ ts t #[.string x, .string y]).run P w = .ok (.string (minK x y)) w := by
  unfold minK
  rcases less_total x.toList y.toList with h | h | h
  · simp [Builtin.min_, Builtin.min2, Op.stringOp, asBool, h, less_asymm h]
  · have := array_inj h
    subst this
    simp [Builtin.min_, Builtin.min2, Op.stringOp, asBool, less_irrefl]
  · have h2 : ¬ x.toList = y.toList := fun e => by rw [e, less_irrefl] at h; cases h
    simp [Builtin.min_, Builtin.min2, Op.stringOp, asBool, h, less_asymm h, h2]
theorem eqlE_any (e f : Ec) (w : World) : (binOp .eql 32 (eV e) (eV f)).run Try.prog w = .ok (.bool (decide (e = f))) w := by
  obtain ⟨a, b, c⟩ := e
  obtain ⟨x, y, z⟩ := f
  unfold eV
  simp only [Prod.mk.injEq]
  by_cases h1 : a.toList = x.toList
  · have := array_inj h1
    subst this
    by_cases h2 : b.toList = y.toList
    · have := array_inj h2
      subst this
      by_cases h3 : c = z
      · subst h3
        simp [go_sem]
      · have h4 : ¬ (c : Int) = (z : Int) := by omega
        simp [go_sem, h3, h4]
    · have h5 : ¬ b = y := fun e => h2 (by rw [e])
      simp [go_sem, h2, h5]
  · have h5 : ¬ a = x := fun e => h1 (by rw [e])
    simp [go_sem, h1, h5]
theorem front_or {a b : Ec} (h : a = zeroE ∨ b = zeroE) : frontE a b = orL [a, b] := by
  unfold frontE orL
  by_cases ha : a = zeroE
  · subst ha
    rw [if_pos rfl, List.find?_cons_of_neg (by simp)]
    by_cases hb : b = zeroE
    · subst hb; rw [List.find?_cons_of_neg (by simp)]; rfl
    · rw [List.find?_cons_of_pos (by simpa using hb)]; rfl
  · have hb : b = zeroE := h.resolve_left ha
    rw [if_neg ha, if_pos hb, List.find?_cons_of_pos (by simpa using ha)]
    rfl
/-- the world in which front begins to look: its arguments, its answer, none -/
def frW (w : World) (a b : Ec) : World := (((w.alloc (.cells #[.string a.1, .string a.2.1, .int .u64 (a.2.2 : Int)] 32)).alloc (.cells #[.string b.1, .string b.2.1, .int .u64 (b.2.2 : Int)] 32)).alloc (.cells #[.string ⟨#[]⟩, .string ⟨#[]⟩, .int .u64 0] 32)).alloc (.cells #[.string ⟨#[]⟩, .string ⟨#[]⟩, .int .u64 0] 32)
theorem cells_other {w : World} {b : Nat} {t : TypeId} {cs : List Value} (h : Cells w b t cs) {p : Addr} (hp : b ≠ p.block) (u : Value) : Cells (w.setCell p u) b t cs := h.move (Below.heap_setCell _ _ _ _ hp)
theorem fr_below (w : World) (a b : Ec) : Below w.heap.size w (frW w a b) := by
  unfold frW
  exact ((((Below.refl _ _).alloc (Nat.le_refl _) _).alloc (by simp) _).alloc (by simp; omega) _).alloc (by simp; omega) _
theorem fr_cells (w : World) (a b : Ec) : Cells (frW w a b) (w.heap.size + 1 + 1) 32 [.string ⟨#[]⟩, .string ⟨#[]⟩, .int .u64 0] := by
  have := Cells.new ((w.alloc (.cells #[.string a.1, .string a.2.1, .int .u64 (a.2.2 : Int)] 32)).alloc (.cells #[.string b.1, .string b.2.1, .int .u64 (b.2.2 : Int)] 32)) #[.string ⟨#[]⟩, .string ⟨#[]⟩, .int .u64 0] 32
  have h2 := this.alloc (.cells #[.string ⟨#[]⟩, .string ⟨#[]⟩, .int .u64 0] 32)
  simpa [frW] using h2
theorem fr_done (w : World) (a b r : Ec) : Cells ((((w.alloc (.cells #[.string a.1, .string a.2.1, .int .u64 (a.2.2 : Int)] 32)).alloc (.cells #[.string b.1, .string b.2.1, .int .u64 (b.2.2 : Int)] 32)).alloc (.cells #[.string r.1, .string r.2.1, .int .u64 (r.2.2 : Int)] 32)).alloc (.cells #[.string ⟨#[]⟩, .string ⟨#[]⟩, .int .u64 0] 32)) (w.heap.size + 1 + 1) 32 (cellE r) ∧
    Below w.heap.size w ((((w.alloc (.cells #[.string a.1, .string a.2.1, .int .u64 (a.2.2 : Int)] 32)).alloc (.cells #[.string b.1, .string b.2.1, .int .u64 (b.2.2 : Int)] 32)).alloc (.cells #[.string r.1, .string r.2.1, .int .u64 (r.2.2 : Int)] 32)).alloc (.cells #[.string ⟨#[]⟩, .string ⟨#[]⟩, .int .u64 0] 32)) := by
  have := Cells.new ((w.alloc (.cells #[.string a.1, .string a.2.1, .int .u64 (a.2.2 : Int)] 32)).alloc (.cells #[.string b.1, .string b.2.1, .int .u64 (b.2.2 : Int)] 32)) #[.string r.1, .string r.2.1, .int .u64 (r.2.2 : Int)] 32
  have h2 := this.alloc (.cells #[.string ⟨#[]⟩, .string ⟨#[]⟩, .int .u64 0] 32)
  refine ⟨by simpa [cellE] using h2, ?_⟩
  exact ((((Below.refl _ _).alloc (Nat.le_refl _) _).alloc (by simp) _).alloc (by simp; omega) _).alloc (by simp; omega) _
section
set_option maxRecDepth 100000
set_option maxHeartbeats 1000000
attribute [local go_sem high] run_max_K run_min_K
theorem front_any (a b : Ec) (w : World) :
    Calls Try.prog 62 #[eV a, eV b] w fun r w' => r = .returned (eV (frontE a b)) ∧ Below w.heap.size w w' := by
  have hqa := fun W => eqlE_any a zeroE W
  have hqb := fun W => eqlE_any b zeroE W
  have Hor := Lib.hid (front_or (a := a) (b := b))
  have Hno : Hid (a ≠ zeroE → b ≠ zeroE → frontE a b = if Op.bytesLess b.1.toList a.1.toList = true then (b.1, minK b.2.1 a.1, b.2.2) else if Op.bytesLess a.1.toList b.1.toList = true then (a.1, minK a.2.1 b.1, a.2.2) else (a.1, minK a.2.1 b.2.1, max a.2.2 b.2.2)) := fun h1 h2 => by
    unfold frontE; rw [if_neg h1, if_neg h2]
  rw [eV_zero] at hqa hqb
  generalize frontE a b = r at *
  obtain ⟨a1, a2, a3⟩ := a
  obtain ⟨b1, b2, b3⟩ := b
  have hsz : (frW w (a1, a2, a3) (b1, b2, b3)).heap.size = w.heap.size + 1 + 1 + 1 + 1 := by simp [frW]
  have HC0 : Hid (Cells (frW w (a1, a2, a3) (b1, b2, b3)) (w.heap.size + 1 + 1) 32 [.string ⟨#[]⟩, .string ⟨#[]⟩, .int .u64 0] ∧ Below w.heap.size w (frW w (a1, a2, a3) (b1, b2, b3))) := ⟨fr_cells _ _ _, fr_below _ _ _⟩
  have HC : Hid (Cells ((frW w (a1, a2, a3) (b1, b2, b3)).alloc (.cells #[.string a1, .string a2, .int .u64 (a3 : Int), .string b1, .string b2, .int .u64 (b3 : Int)] 32)) (w.heap.size + 1 + 1) 32 [.string ⟨#[]⟩, .string ⟨#[]⟩, .int .u64 0] ∧ Below w.heap.size w ((frW w (a1, a2, a3) (b1, b2, b3)).alloc (.cells #[.string a1, .string a2, .int .u64 (a3 : Int), .string b1, .string b2, .int .u64 (b3 : Int)] 32))) := ⟨HC0.out.1.alloc _, HC0.out.2.alloc HC0.out.2.size _⟩
  have HO : Hid (Calls Try.prog 73 #[.slice (some ⟨w.heap.size + 1 + 1 + 1 + 1, 0, none⟩) 2 2] ((frW w (a1, a2, a3) (b1, b2, b3)).alloc (.cells #[.string a1, .string a2, .int .u64 (a3 : Int), .string b1, .string b2, .int .u64 (b3 : Int)] 32)) fun r w' => r = .returned (eV (orL [(a1, a2, a3), (b1, b2, b3)])) ∧ Below ((frW w (a1, a2, a3) (b1, b2, b3)).alloc (.cells #[.string a1, .string a2, .int .u64 (a3 : Int), .string b1, .string b2, .int .u64 (b3 : Int)] 32)).heap.size ((frW w (a1, a2, a3) (b1, b2, b3)).alloc (.cells #[.string a1, .string a2, .int .u64 (a3 : Int), .string b1, .string b2, .int .u64 (b3 : Int)] 32)) w') := by
    rw [← hsz]
    refine or_any [(a1, a2, a3), (b1, b2, b3)] _ 2 _ (by simp) ?_
    have hc := Cells.new (frW w (a1, a2, a3) (b1, b2, b3)) #[.string a1, .string a2, .int .u64 (a3 : Int), .string b1, .string b2, .int .u64 (b3 : Int)] 32
    intro k p hk
    have hk2 : k < 2 := by have := (List.getElem?_eq_some_iff.1 hk).1; simpa using this
    rcases (by omega : k = 0 ∨ k = 1) with rfl | rfl
    · cases hk
      exact ⟨_, 0, rfl, by simp, hc.cell (i := 0) rfl, hc.cell (i := 1) rfl, hc.cell (i := 2) rfl⟩
    · cases hk
      exact ⟨_, 0, rfl, by simp, hc.cell (i := 3) rfl, hc.cell (i := 4) rfl, hc.cell (i := 5) rfl⟩
  clear hsz
  unfold frW at HO HC HC0
  unfold eV at hqa hqb ⊢
  dsimp only at hqa hqb Hno HO HC HC0 ⊢
  by_cases ha : (a1, a2, a3) = zeroE
  · rw [decide_eq_true ha] at hqa
    have Hr := Lib.hid (Hor.out (.inl ha))
    clear ha hqb Hno Hor
    go_enter Try.func62, Try.ntmps62
    go_wp2_with fail
    refine (HO.out).mono ?_
    rintro e w2 ⟨rfl, hb2⟩
    have hC := (HC.out.1.move (hb2.block _ HC.out.1.lt))
    have hbel : Below w.heap.size w w2 := HC.out.2.trans (hb2.mono HC.out.2.size)
    have f0 := hC.frozen 0
    have f1 := hC.frozen 1
    have f2 := hC.frozen 2
    have c0 := hC.cell (i := 0) rfl
    have c1 := hC.cell (i := 1) rfl
    have c2 := hC.cell (i := 2) rfl
    rw [← Hr.out]
    unfold eV
    have H2 : Hid (Cells w2 (w.heap.size + 1 + 1) 32 [.string ⟨#[]⟩, .string ⟨#[]⟩, .int .u64 0] ∧ Below w.heap.size w w2) := ⟨hC, hbel⟩
    clear hC hbel hb2 HO HC
    go_wp2_with fail
    refine bodyPost_ret (v := eV r) (res_cell rfl _ _ _ _ rfl (load_el _ _ _ ?_)) rfl ⟨rfl, ?_⟩
    · exact set3 H2.out.1 r
    · exact below_set3 H2.out.2 (by omega) _ _ _
  by_cases hb : (b1, b2, b3) = zeroE
  · rw [decide_eq_true hb] at hqb
    rw [decide_eq_false ha] at hqa
    have Hr := Lib.hid (Hor.out (.inr hb))
    clear ha hb Hno Hor
    go_enter Try.func62, Try.ntmps62
    go_wp2_with fail
    refine (HO.out).mono ?_
    rintro e w2 ⟨rfl, hb2⟩
    have hC := (HC.out.1.move (hb2.block _ HC.out.1.lt))
    have hbel : Below w.heap.size w w2 := HC.out.2.trans (hb2.mono HC.out.2.size)
    have f0 := hC.frozen 0
    have f1 := hC.frozen 1
    have f2 := hC.frozen 2
    have c0 := hC.cell (i := 0) rfl
    have c1 := hC.cell (i := 1) rfl
    have c2 := hC.cell (i := 2) rfl
    rw [← Hr.out]
    unfold eV
    have H2 : Hid (Cells w2 (w.heap.size + 1 + 1) 32 [.string ⟨#[]⟩, .string ⟨#[]⟩, .int .u64 0] ∧ Below w.heap.size w w2) := ⟨hC, hbel⟩
    clear hC hbel hb2 HO HC
    go_wp2_with fail
    refine bodyPost_ret (v := eV r) (res_cell rfl _ _ _ _ rfl (load_el _ _ _ ?_)) rfl ⟨rfl, ?_⟩
    · exact set3 H2.out.1 r
    · exact below_set3 H2.out.2 (by omega) _ _ _
  · rw [decide_eq_false hb] at hqb
    rw [decide_eq_false ha] at hqa
    have Hr := Lib.hid (Hno.out ha hb)
    clear ha hb Hno Hor
    cases h1 : Op.bytesLess b1.toList a1.toList with
    | true =>
      have h2 := less_asymm h1
      go_enter Try.func62, Try.ntmps62
      go_wp2_with fail
      refine bodyPost_ret (v := eV r) (res_cell rfl _ _ _ _ rfl (load_el _ _ _ ?_)) rfl ⟨rfl, ?_⟩
      · rw [Hr.out, if_pos h1]; exact (fr_done w (b1, b2, b3) (a1, a2, a3) (b1, minK b2 a1, b3)).1
      · exact (fr_done w (b1, b2, b3) (a1, a2, a3) (b1, minK b2 a1, b3)).2
    | false =>
      cases h2 : Op.bytesLess a1.toList b1.toList with
      | true =>
        go_enter Try.func62, Try.ntmps62
        go_wp2_with fail
        refine bodyPost_ret (v := eV r) (res_cell rfl _ _ _ _ rfl (load_el _ _ _ ?_)) rfl ⟨rfl, ?_⟩
        · rw [Hr.out, if_neg (by rw [h1]; simp), if_pos h2]
          exact (fr_done w (a1, a2, a3) (b1, b2, b3) (a1, minK a2 b1, a3)).1
        · exact (fr_done w (a1, a2, a3) (b1, b2, b3) (a1, minK a2 b1, a3)).2
      | false =>
        go_enter Try.func62, Try.ntmps62
        go_wp2_with fail
        rw [show max (a3 : Int) (b3 : Int) = ((max a3 b3 : Nat) : Int) by omega]
        refine bodyPost_ret (v := eV r) (res_cell rfl _ _ _ _ rfl (load_el _ _ _ ?_)) rfl ⟨rfl, ?_⟩
        · rw [Hr.out, if_neg (by rw [h1]; simp), if_neg (by rw [h2]; simp)]
          exact (fr_done w (a1, a2, a3) (b1, b2, b3) (a1, minK a2 b2, max a3 b3)).1
        · exact (fr_done w (a1, a2, a3) (b1, b2, b3) (a1, minK a2 b2, max a3 b3)).2
end
end Go.Proofs.Ytghcfmkmndldoaa

/-
  joined: a plain list with one more stretch behind it.
-/
namespace Go.Proofs.Ytghcfmkmndldoaa
open Go.RowKit Go.Sort Go.Lib

theorem join_set (m : List Ec) (x : Ec) (h : ByteArray) : (m ++ [x]).set m.length (x.1, h, x.2.2) = m ++ [(x.1, h, x.2.2)] := by
  rw [List.set_append_right _ _ (Nat.le_refl _)]
  simp
theorem below_dr {B : Nat} {w w' : World} (h : Below B w w') (n : Nat) : Below B w (w'.drewN n) := ⟨h.os, h.tape, h.output, h.size, h.block⟩
section
set_option maxRecDepth 100000
set_option maxHeartbeats 4000000
theorem joined_any (es : List Ec) (e : Ec) (base : Nat) (v : Value) (w : World) (ho : OwnE w base v es) (hb : base ≤ w.heap.size) (hl : es.length < 1099511627776) :
    Calls Try.prog 63 #[v, eV e] w fun r w' => ∃ v', r = .returned v' ∧ OwnE w' base v' (joinE es e) ∧ Kept (fun k => v.ownBlock ≠ some k) w w' := by
  obtain ⟨KK, hKK⟩ : ∃ KK : Nat → Prop, KK = fun k => v.ownBlock ≠ some k := ⟨_, rfl⟩
  rw [← hKK]
  obtain ⟨A, c, rfl, hc, hA, hr, hge, hfl⟩ := ho.rd
  obtain ⟨W1, hW1⟩ : ∃ W1, W1 = w.alloc (.cells #[.string e.1, .string e.2.1, .int .u64 (e.2.2 : Int)] 32) := ⟨_, rfl⟩
  have hC : Cells W1 w.heap.size 32 (cellE e) := by rw [hW1]; exact Cells.new w _ _
  have hBel : Below w.heap.size w W1 := by rw [hW1]; exact (Below.refl _ _).alloc (Nat.le_refl _) _
  have HK : Hid (∀ k, ¬ KK k ↔ (Value.slice A es.length c).ownBlock = some k) := fun k => by rw [hKK]; exact Decidable.not_not
  clear hKK
  have HH : Hid (OwnE W1 base (.slice A es.length c) es ∧ Kept KK w W1 ∧ base ≤ W1.heap.size ∧ es.length < 1099511627776) := ⟨ho.below hBel, by rw [hW1]; exact (Kept.refl _ _).alloc _, Nat.le_trans hb hBel.size, hl⟩
  have hr1 := hr.below hBel
  have e0 := hC.cell (i := 0) rfl
  have e1 := hC.cell (i := 1) rfl
  have e2 := hC.cell (i := 2) rfl
  have hl' : (es.length : Int) ≤ 1099511627776 := by omega
  by_cases h0 : es = []
  · subst h0
    have Hst : Hid (∀ W : World, Below W1.heap.size W1 W → OwnE (W.alloc (.cells #[.string e.1, .string e.2.1, .int .u64 (e.2.2 : Int)] 32)) base (.slice A 0 c) [] ∧ Kept KK w (W.alloc (.cells #[.string e.1, .string e.2.1, .int .u64 (e.2.2 : Int)] 32)) ∧ base ≤ (W.alloc (.cells #[.string e.1, .string e.2.1, .int .u64 (e.2.2 : Int)] 32)).heap.size) := fun W q => by
      have q2 : Below W1.heap.size W1 (W.alloc (.cells #[.string e.1, .string e.2.1, .int .u64 (e.2.2 : Int)] 32)) := q.alloc q.size _
      exact ⟨HH.out.1.below q2, HH.out.2.1.below q2, Nat.le_trans HH.out.2.2.1 q2.size⟩
    have He : Hid (∀ W : World, RE (W.alloc (.cells #[.string e.1, .string e.2.1, .int .u64 (e.2.2 : Int)] 32)) (W.heap.size + 1) (some ⟨W.heap.size, 0, none⟩) [e]) := fun W => RE.one W e
    have hwr : IntKind.i64.wrap ((0 : Int) - 1) = -1 := by decide
    show Calls Try.prog 63 #[.slice A 0 c, eV e] w _
    rw [join_nil]
    unfold eV
    clear ho hr hge hfl hr1 hC hBel hc hl hl' HH hA
    obtain ⟨f1, f2, f3⟩ := e
    dsimp only at *
    go_enter Try.func63, Try.ntmps63
    go_upto_region 2 with fail
    rw [← hW1]
    clear hW1
    go_quiet (fail)
    have H9 := Lib.hid (Hst.out (W1.drewN nq) (below_dr (Below.refl _ _) nq))
    go_wp2_with (at_builtin; refine app_elisions (es := []) (fs := [(f1, f2, f3)]) rfl (.tmp 38) (.tmp 40) rfl rfl H9.out.1 1 1 rfl rfl (He.out _) (by simp) H9.out.2.2 ?_; intro v6 w6 r6 g6 _; have H6 : Hid (OwnE w6 base v6 [(f1, f2, f3)] ∧ Kept KK w w6) := ⟨r6, H9.out.2.1.grown g6 fun g e => (HK.out g).2 e⟩; clear r6 g6)
    go_ret
    exact ⟨_, rfl, H6.out⟩
  · obtain ⟨m, x, rfl⟩ := snoc_of h0
    obtain ⟨b, o, rfl, hblt, x0, x1, x2⟩ := hr1 m.length x (by simp)
    obtain ⟨b', hb', hfz⟩ := hfl _ rfl
    cases hb'
    have hfz1 : (W1.frozen? ⟨b, m.length * 3 + 1, none⟩ = false) := by
      obtain ⟨_, _, eA, _, _, _, _, hf⟩ := HH.out.1.rd
      cases eA
      obtain ⟨_, eb, hf⟩ := hf _ rfl
      cases eb
      exact hf _
    have Hset : Hid (∀ W : World, OwnE W base (.slice (some ⟨b, 0, none⟩) (m ++ [x]).length c) (m ++ [x]) → OwnE (W.setCell ⟨b, m.length * 3 + 1, none⟩ (.string e.2.1)) base (.slice (some ⟨b, 0, none⟩) (m ++ [x]).length c) (m ++ [(x.1, e.2.1, x.2.2)])) := fun W q => by
      have := q.setHi (i := m.length) (p := x) (by simp) e.2.1
      rwa [join_set] at this
    have hbb : Hid (base ≤ b) := hge _ _ rfl
    obtain ⟨k, hk⟩ : ∃ k, k = m.length := ⟨_, rfl⟩
    obtain ⟨n, hn⟩ : ∃ n, n = (m ++ [x]).length := ⟨_, rfl⟩
    have hnk : n = k + 1 := by rw [hn, hk]; simp
    rw [← hk] at x0 x1 x2 hfz1 Hset
    rw [← hn] at HH hl' Hset ⊢
    rw [Nat.zero_add] at x0 x1 x2
    have hwr : IntKind.i64.wrap ((n : Int) - 1) = (k : Int) := by rw [IntKind.wrap_i64]; omega
    have hge0 : (k : Int) ≥ 0 := by omega
    have hlt0 : (k : Int) < (n : Int) := by omega
    have Hn := Lib.hid hn
    clear hn hk hnk
    by_cases hq : x.2.1 = e.1 ∧ x.2.2 = e.2.2
    · have q1 : (x.2.1.toList == e.1.toList) = true := by rw [hq.1]; simp
      have q2 : ((x.2.2 : Int) == (e.2.2 : Int)) = true := by rw [hq.2]; simp
      have Hj : Hid (joinE (m ++ [x]) e = m ++ [(x.1, e.2.1, x.2.2)]) := by
        show _ = _
        rw [join_snoc, if_pos hq]
      unfold eV
      generalize e.1 = f1 at *
      generalize e.2.1 = f2 at *
      generalize e.2.2 = f3 at *
      clear hq ho hr hge hfl hr1 hC hBel h0 hfz hc hl
      go_enter Try.func63, Try.ntmps63
      go_upto_region 2 with fail
      rw [← hW1]
      clear hW1
      go_quiet (fail)
      go_wp2_with fail
      go_ret
      refine ⟨_, rfl, ?_, ?_⟩
      · rw [Hj.out]
        exact Hset.out _ HH.out.1
      · exact (HH.out.2.1.drewN nq).setCell (p := ⟨b, k * 3 + 1, none⟩) ((HK.out _).2 rfl) _
    · have Hj : Hid (joinE (m ++ [x]) e = (m ++ [x]) ++ [e]) := by
        show _ = _
        rw [join_snoc, if_neg hq]
      have Hst : Hid (∀ W : World, Below W1.heap.size W1 W → OwnE (W.alloc (.cells #[.string e.1, .string e.2.1, .int .u64 (e.2.2 : Int)] 32)) base (.slice (some ⟨b, 0, none⟩) n c) (m ++ [x]) ∧ Kept KK w (W.alloc (.cells #[.string e.1, .string e.2.1, .int .u64 (e.2.2 : Int)] 32)) ∧ base ≤ (W.alloc (.cells #[.string e.1, .string e.2.1, .int .u64 (e.2.2 : Int)] 32)).heap.size) := fun W q => by
        have q2 : Below W1.heap.size W1 (W.alloc (.cells #[.string e.1, .string e.2.1, .int .u64 (e.2.2 : Int)] 32)) := q.alloc q.size _
        exact ⟨HH.out.1.below q2, HH.out.2.1.below q2, Nat.le_trans HH.out.2.2.1 q2.size⟩
      have He : Hid (∀ W : World, RE (W.alloc (.cells #[.string e.1, .string e.2.1, .int .u64 (e.2.2 : Int)] 32)) (W.heap.size + 1) (some ⟨W.heap.size, 0, none⟩) [e]) := fun W => RE.one W e
      have Hlen : Hid ((m ++ [x]).length + 1 ≤ 1099511627776) := by show _ ≤ _; omega
      have hqq : (x.2.1.toList == e.1.toList) = false ∨ ((x.2.1.toList == e.1.toList) = true ∧ ((x.2.2 : Int) == (e.2.2 : Int)) = false) := by
        by_cases q1 : x.2.1.toList = e.1.toList
        · right
          refine ⟨by rw [q1]; simp, ?_⟩
          rw [beq_eq_false_iff_ne]
          intro q2
          exact hq ⟨array_inj q1, by omega⟩
        · left
          rw [beq_eq_false_iff_ne]
          exact q1
      unfold eV
      clear hq ho hr hge hfl hr1 hC hBel h0 hfz hc hl Hset
      obtain ⟨f1, f2, f3⟩ := e
      dsimp only at *
      rcases hqq with q1 | ⟨q1, q2⟩
      · go_enter Try.func63, Try.ntmps63
        go_upto_region 2 with fail
        rw [← hW1]
        clear hW1
        go_quiet (fail)
        have H9 := Lib.hid (Hst.out (W1.drewN nq) (below_dr (Below.refl _ _) nq))
        go_wp2_with (at_builtin; refine app_elisions (fs := [(f1, f2, f3)]) rfl (.tmp 38) (.tmp 40) rfl rfl H9.out.1 1 1 rfl rfl (He.out _) Hlen.out H9.out.2.2 ?_; intro v6 w6 r6 g6 _; have H6 : Hid (OwnE w6 base v6 (joinE (m ++ [x]) (f1, f2, f3)) ∧ Kept KK w w6) := ⟨by rw [Hj.out]; exact r6, H9.out.2.1.grown g6 fun g e => (HK.out g).2 e⟩; clear r6 g6)
        go_ret
        exact ⟨_, rfl, H6.out⟩
      · go_enter Try.func63, Try.ntmps63
        go_upto_region 2 with fail
        rw [← hW1]
        clear hW1
        go_quiet (fail)
        have H9 := Lib.hid (Hst.out (W1.drewN nq) (below_dr (Below.refl _ _) nq))
        go_wp2_with (at_builtin; refine app_elisions (fs := [(f1, f2, f3)]) rfl (.tmp 38) (.tmp 40) rfl rfl H9.out.1 1 1 rfl rfl (He.out _) Hlen.out H9.out.2.2 ?_; intro v6 w6 r6 g6 _; have H6 : Hid (OwnE w6 base v6 (joinE (m ++ [x]) (f1, f2, f3)) ∧ Kept KK w w6) := ⟨by rw [Hj.out]; exact r6, H9.out.2.1.grown g6 fun g e => (HK.out g).2 e⟩; clear r6 g6)
        go_ret
        exact ⟨_, rfl, H6.out⟩
end
end Go.Proofs.Ytghcfmkmndldoaa

/-
  walk: what goes through a plain list once.
-/
namespace Go.Proofs.Ytghcfmkmndldoaa
open Go.RowKit Go.Sort Go.Lib

/-- a list without its first -/
theorem tailE_run (b o n c : Nat) (h1 : 1 ≤ n) (h2 : n ≤ c) : ∃ A' : Option Addr, (∀ W : World, (Instr.sliceAt 22 (.slice (some ⟨b, o, none⟩) n c) (some (.int .i64 1)) none none).run Try.prog W = .ok (.slice A' (n - 1) (c - 1)) W) ∧ (1 < c → A' = some ⟨b, o + 3, none⟩) ∧ A' ≠ none := by
  have h3 : (1 : Int) ≤ (n : Int) := by omega
  by_cases h5 : 1 < c
  · refine ⟨some ⟨b, o + 3, none⟩, fun W => ?_, fun _ => rfl, by simp⟩
    have h4 : ¬ 1 = c := by omega
    simp [go_sem, h3, sliced, Addr.add]
    omega
  · refine ⟨some ⟨b, o, none⟩, fun W => ?_, fun h => absurd h h5, by simp⟩
    have h4 : c = 1 := by omega
    have h6 : n = 1 := by omega
    subst h4
    subst h6
    simp [go_sem, sliced]
/-- WHERE A WALK STANDS: its list is r, below block B; its own block is lb -/
def WkAt (w : World) (B lb : Nat) (r : List Ec) : Prop := ∃ A c, Cells w lb 22 [.slice A r.length c] ∧ RE w B A r ∧ r.length ≤ c ∧ B ≤ lb
theorem WkAt.kept {w w' : World} {B lb : Nat} {r : List Ec} {K : Nat → Prop} (h : WkAt w B lb r) (hk : Kept K w w') (hl : K lb) (hB : ∀ b, b < B → K b) (hs : B ≤ w.heap.size) : WkAt w' B lb r := by
  obtain ⟨A, c, h1, h2, h3, h4⟩ := h
  exact ⟨A, c, h1.move (hk.block _ h1.lt hl), h2.below (hk.to_below hB hs), h3, h4⟩
/-- how long the list in a walk's block is -/
def lenAt (w : World) (lb : Nat) : Nat := match w.cell? ⟨lb, 0, none⟩ with | some (.slice _ n _) => n | _ => 0
theorem lenAt_of {w : World} {lb : Nat} {A : Option Addr} {n c : Nat} {t : TypeId} (h : Cells w lb t [.slice A n c]) : lenAt w lb = n := by
  unfold lenAt
  rw [h.cell (i := 0) rfl]
theorem kept_set3 {K : Nat → Prop} {w w' : World} (h : Kept K w w') {b : Nat} (hb : ¬ K b) (x y z : Value) : Kept K w (((w'.setCell ⟨b, 0, none⟩ x).setCell ⟨b, 1, none⟩ y).setCell ⟨b, 2, none⟩ z) := ((h.setCell hb x).setCell hb y).setCell hb z
theorem kept_new {K : Nat → Prop} {w w' : World} (h : Kept K w w') {p : Addr} (hp : w.heap.size ≤ p.block) (u : Value) : Kept K w (w'.setCell p u) :=
  ⟨h.os, h.tape, h.output, by simpa [World.setCell] using h.size, fun b hb hk => (Below.heap_setCell _ _ _ _ (by omega)).trans (h.block b hb hk)⟩
theorem kept_new3 {K : Nat → Prop} {w w' : World} (h : Kept K w w') {b : Nat} (hb : w.heap.size ≤ b) (x y z : Value) : Kept K w (((w'.setCell ⟨b, 0, none⟩ x).setCell ⟨b, 1, none⟩ y).setCell ⟨b, 2, none⟩ z) := kept_new (kept_new (kept_new h hb x) hb y) hb z
/-- what the answer's cell gets turns no walk -/
theorem WkAt.set3 {w : World} {B lb b : Nat} {r : List Ec} (h : WkAt w B lb r) (hb : lb ≠ b) (hB : B ≤ b) (hs : B ≤ w.heap.size) (x y z : Value) : WkAt (((w.setCell ⟨b, 0, none⟩ x).setCell ⟨b, 1, none⟩ y).setCell ⟨b, 2, none⟩ z) B lb r :=
  h.kept (K := fun k => k ≠ b) (kept_set3 (Kept.refl _ _) (fun q => q rfl) x y z) hb (fun k hk => by omega) hs
section
set_option maxRecDepth 100000
set_option maxHeartbeats 4000000
attribute [local go_sem high] run_max_K run_min_K
theorem walk_any (A : Option Addr) (n c : Nat) (w : World) : Calls Try.prog 61 #[.slice A n c] w fun r w' => r = .returned (.func (.func 72) #[] #[.pointer (some ⟨w.heap.size, 0, none⟩)]) ∧ w' = w.alloc (.cells #[.slice A n c] 22) := by
  go_enter Try.func61, Try.ntmps61
  go_wp2_with fail
  go_ret
  exact ⟨rfl, rfl⟩
theorem walk1_any (B lb : Nat) (l : List Ec) (key : ByteArray) (w : World) (h : WkAt w B lb l) (hl : l.length ≤ 1099511627776) (hB : B ≤ w.heap.size) :
    Calls Try.prog 72 #[.string key, .pointer (some ⟨lb, 0, none⟩)] w fun r w' => r = .returned (eV (headE key l)) ∧ WkAt w' B lb (dropE key l) ∧ Kept (fun k => k ≠ lb) w w' := by
  have hlb : lb < w.heap.size := by obtain ⟨A, c, h1, _⟩ := h; exact h1.lt
  have H0 : Hid (WkAt w B lb l ∧ lb < w.heap.size ∧ B ≤ w.heap.size ∧ l.length ≤ 1099511627776) := ⟨h, hlb, hB, hl⟩
  unfold headE
  obtain ⟨d, hd⟩ : ∃ d, d = dropE key l := ⟨_, rfl⟩
  rw [← hd]
  have Hd := Lib.hid hd
  clear h hlb hB hl hd
  go_enter Try.func72, Try.ntmps72
  go_wp2_with fail
  go_loopw [] (fun wr => Hid (∃ r, WkAt wr B lb r ∧ r.length ≤ 1099511627776 ∧ d = dropE key r ∧ Cells wr w.heap.size 32 [.string ⟨#[]⟩, .string ⟨#[]⟩, .int .u64 0] ∧ Kept (fun k => k ≠ lb) w wr)) (fun wr => lenAt wr lb)
  case atStart =>
    have hk : Kept (fun k => k ≠ lb) w (w.alloc (.cells #[.string ⟨#[]⟩, .string ⟨#[]⟩, .int .u64 0] 32)) := (Kept.refl _ _).alloc _
    obtain ⟨A, c, h1, h2, h3, h4⟩ := H0.out.1
    exact ⟨l, ⟨A, c, h1.alloc _, h2.below ((Below.refl _ _).alloc H0.out.2.2.1 _), h3, h4⟩, H0.out.2.2.2, Hd.out, Cells.new w _ _, hk⟩
  case round =>
    obtain ⟨r, ⟨A, c, hc, hre, hlc, hBl⟩, hrl, hdr, hC, hK⟩ := hrel.out
    have hH := hrel
    clear hrel
    have c0 := hc.cell (i := 0) rfl
    have y0 := hC.cell (i := 0) rfl
    have y1 := hC.cell (i := 1) rfl
    have y2 := hC.cell (i := 2) rfl
    have z0 := hC.frozen 0
    have z1 := hC.frozen 1
    have z2 := hC.frozen 2
    have lz := hc.frozen 0
    rcases r with _ | ⟨x, r⟩
    · have Hf : Hid (d = [] ∧ WkAt wr B lb [] ∧ Cells wr w.heap.size 32 [.string ⟨#[]⟩, .string ⟨#[]⟩, .int .u64 0] ∧ Kept (fun k => k ≠ lb) w wr ∧ w.heap.size ≠ lb) := ⟨hdr, ⟨A, c, hc, hre, hlc, hBl⟩, hC, hK, by have := H0.out.2.1; omega⟩
      clear hc hre hlc hBl hrl hdr hC hK hH
      go_wp2_with fail
      rw [Hf.out.1]
      have hsz := Hf.out.2.2.2.1.size
      refine bodyPost_ret (v := eV zeroE) (res_cell rfl _ _ _ _ rfl (load_el _ _ _ ?_)) rfl ⟨rfl, ?_, ?_⟩
      · exact set3 Hf.out.2.2.1 zeroE
      · exact Hf.out.2.1.set3 (Ne.symm Hf.out.2.2.2.2) H0.out.2.2.1 (by have := H0.out.2.2.1; omega) _ _ _
      · exact kept_new3 Hf.out.2.2.2.1 (Nat.le_refl _) _ _ _
    · obtain ⟨b, o, rfl, hblt, x0, x1, x2⟩ := hre 0 x rfl
      rw [Nat.zero_mul, Nat.add_zero] at x0 x1 x2
      obtain ⟨n, hn⟩ : ∃ n, n = (x :: r).length := ⟨_, rfl⟩
      have hn1 : r.length = n - 1 := by rw [hn]; simp
      have hn2 : (n : Int) > 0 := by rw [hn]; simp
      have hn3 : ((n : Int) == 0) = false := by rw [beq_eq_false_iff_ne]; omega
      have hn4 : (0 : Int) < (n : Int) := by omega
      have hn5 : ¬ n = 0 := by omega
      obtain ⟨q, hq⟩ : ∃ q, Op.bytesLess key.toList x.2.1.toList = q := ⟨_, rfl⟩
      cases q with
      | true =>
        have hdx : d = x :: r := by rw [hdr, dropE, if_pos hq]
        have hq2 := less_asymm hq
        have hq3 : (x.2.1.toList == key.toList) = false := by
          rw [beq_eq_false_iff_ne]
          intro e
          rw [e, less_irrefl] at hq
          cases hq
        subst hdx
        rw [← hn] at c0
        have hk9 : Kept (fun k => k ≠ lb) w (wr.alloc (.cells #[.string (maxK x.1 key), .string x.2.1, .int .u64 (x.2.2 : Int)] 32)) := hK.alloc _
        have hC9 := hC.alloc (.cells #[.string (maxK x.1 key), .string x.2.1, .int .u64 (x.2.2 : Int)] 32)
        have hW9 : WkAt (wr.alloc (.cells #[.string (maxK x.1 key), .string x.2.1, .int .u64 (x.2.2 : Int)] 32)) B lb (x :: r) :=
          WkAt.kept (K := fun _ => True) ⟨some ⟨b, o, none⟩, c, hc, hre, hlc, hBl⟩ ((Kept.refl _ _).alloc _) trivial (fun _ _ => trivial) (Nat.le_trans H0.out.2.2.1 hK.size)
        have v0 := hC9.cell (i := 0) rfl
        have v1 := hC9.cell (i := 1) rfl
        have v2 := hC9.cell (i := 2) rfl
        have u0 := hC9.frozen 0
        have u1 := hC9.frozen 1
        have u2 := hC9.frozen 2
        have Hf : Hid (WkAt (wr.alloc (.cells #[.string (maxK x.1 key), .string x.2.1, .int .u64 (x.2.2 : Int)] 32)) B lb (x :: r) ∧ Cells (wr.alloc (.cells #[.string (maxK x.1 key), .string x.2.1, .int .u64 (x.2.2 : Int)] 32)) w.heap.size 32 [.string ⟨#[]⟩, .string ⟨#[]⟩, .int .u64 0] ∧ Kept (fun k => k ≠ lb) w (wr.alloc (.cells #[.string (maxK x.1 key), .string x.2.1, .int .u64 (x.2.2 : Int)] 32)) ∧ w.heap.size ≠ lb ∧ B ≤ w.heap.size ∧ w.heap.size ≤ (wr.alloc (.cells #[.string (maxK x.1 key), .string x.2.1, .int .u64 (x.2.2 : Int)] 32)).heap.size) := ⟨hW9, hC9, hk9, by have := H0.out.2.1; omega, H0.out.2.2.1, hk9.size⟩
        clear hc hre hlc hBl hrl hC hK hH hn hn1 hk9 hC9 hW9 hdr
        go_wp2_with fail
        refine bodyPost_ret (v := eV (maxK x.1 key, x.2.1, x.2.2)) (res_cell rfl _ _ _ _ rfl (load_el _ _ _ ?_)) rfl ⟨rfl, ?_, ?_⟩
        · exact set3 Hf.out.2.1 (maxK x.1 key, x.2.1, x.2.2)
        · exact Hf.out.1.set3 (Ne.symm Hf.out.2.2.2.1) Hf.out.2.2.2.2.1 (Nat.le_trans Hf.out.2.2.2.2.1 Hf.out.2.2.2.2.2) _ _ _
        · exact kept_new3 Hf.out.2.2.1 (Nat.le_refl _) _ _ _
      | false =>
        have hlc' : n ≤ c := by rw [hn]; exact hlc
        obtain ⟨A', hrun, hA1, hA2⟩ := tailE_run b o n c (by omega) hlc'
        have Hs : Hid (WkAt (wr.setCell ⟨lb, 0, none⟩ (.slice A' (n - 1) (c - 1))) B lb r ∧ r.length ≤ 1099511627776 ∧ d = dropE key r ∧ Cells (wr.setCell ⟨lb, 0, none⟩ (.slice A' (n - 1) (c - 1))) w.heap.size 32 [.string ⟨#[]⟩, .string ⟨#[]⟩, .int .u64 0] ∧ Kept (fun k => k ≠ lb) w (wr.setCell ⟨lb, 0, none⟩ (.slice A' (n - 1) (c - 1)))) := by
          refine ⟨⟨A', c - 1, by rw [hn1]; exact hc.set 0 _, ?_, by rw [hn1]; rw [← hn] at hlc; omega, hBl⟩, by simp at hrl; omega, by rw [hdr, dropE, if_neg (by rw [hq]; simp)], cells_other hC (by have := H0.out.2.1; show w.heap.size ≠ lb; omega) _, hK.setCell (fun q => q rfl) _⟩
          rcases r with _ | ⟨x', r'⟩
          · exact RE.nil _ _ _
          · rw [hA1 (by simp at hn; omega)]
            have h9 := hre.cut 1
            rw [Nat.one_mul, List.drop_one, List.tail_cons] at h9
            exact h9.below ((Below.refl _ _).setCell hBl _)
        have Hm : Hid (lenAt (wr.setCell ⟨lb, 0, none⟩ (.slice A' (n - 1) (c - 1))) lb < lenAt wr lb) := by
          show _ < _
          rw [lenAt_of (hc.set 0 _), lenAt_of hc, ← hn]
          omega
        rw [← hn] at c0
        have hq4 : ((Op.bytesLess x.2.1.toList key.toList || x.2.1.toList == key.toList) = true) := by
          rcases less_total x.2.1.toList key.toList with h | h | h
          · rw [h]; rfl
          · rw [h, less_irrefl]; simp
          · rw [hq] at h; cases h
        generalize x.2.1 = hi at *
        cases hq5 : Op.bytesLess hi.toList key.toList with
        | true =>
          clear hc hre hlc hBl hrl hdr hC hK hH hq hq4 hn hn1 hA1 hA2
          go_wp2_with fail
          go_roundw
          case rel => exact ⟨r, Hs.out⟩
          case measure => exact Hm.out
        | false =>
          rw [hq5, Bool.false_or] at hq4
          clear hc hre hlc hBl hrl hdr hC hK hH hq hn hn1 hA1 hA2
          go_wp2_with fail
          go_roundw
          case rel => exact ⟨r, Hs.out⟩
          case measure => exact Hm.out
end
end Go.Proofs.Ytghcfmkmndldoaa

/-
  both: two plain lists as one.
-/
namespace Go.Proofs.Ytghcfmkmndldoaa
open Go.RowKit Go.Sort Go.Lib

theorem bnd_append (l m : List Ec) : bndE (l ++ m) = bndE l ++ bndE m := by simp [bndE]
theorem bnd_len (l : List Ec) : (bndE l).length = 2 * l.length := by
  induction l with
  | nil => rfl
  | cons a l ih => rw [show bndE (a :: l) = [a.1, a.2.1] ++ bndE l from rfl, List.length_append, ih]; simp; omega
theorem bnd_suffix {l m : List Ec} (h : m <:+ l) {x : ByteArray} (hx : x ∈ bndE m) : x ∈ bndE l := by
  obtain ⟨t, rfl⟩ := h
  rw [bnd_append]
  exact List.mem_append_right _ hx
theorem left_le (bs : List ByteArray) (k : ByteArray) : leftE bs k ≤ bs.length := List.countP_le_length
theorem join_len (l : List Ec) (e : Ec) : (joinE l e).length ≤ l.length + 1 := by
  by_cases h : l = []
  · subst h; rw [join_nil]; simp
  · obtain ⟨m, x, rfl⟩ := snoc_of h
    rw [join_snoc]
    split <;> simp
/-- what is left of a list for keys from k on -/
structure LeftAt (a r : List Ec) (k : ByteArray) : Prop where
  suf : r <:+ a
  top : ∀ j, ke k j → topE r j = topE a j
theorem LeftAt.start (a : List Ec) (k : ByteArray) : LeftAt a a k := ⟨List.suffix_refl _, fun _ _ => rfl⟩
theorem LeftAt.drop {a r : List Ec} {k : ByteArray} (h : LeftAt a r k) : LeftAt a (dropE k r) k := ⟨(drop_suffix k r).trans h.suf, fun j hj => by rw [drop_top hj, h.top j hj]⟩
theorem LeftAt.up {a r : List Ec} {k k' : ByteArray} (h : LeftAt a r k) (hk : ke k k') : LeftAt a r k' := ⟨h.suf, fun j hj => h.top j (ke_trans hk hj)⟩
theorem LeftAt.head {a r : List Ec} {k : ByteArray} (h : LeftAt a r k) (hp : PlainE a) : AtE (topE a) (bndE a) k (headE k r) := by
  rcases head_at (hp.sub h.suf.sublist) k with ⟨q1, q2⟩ | ⟨q1, q2, q3, q4, q5, q6⟩
  · exact .inl ⟨q1, fun j hj => by rw [← h.top j hj]; exact q2 j hj⟩
  · refine .inr ⟨q1, q2, fun j h1 h2 => by rw [← h.top j h1]; exact q3 j h1 h2, fun j h1 h2 => by rw [← h.top j (ke_trans q2 h1)]; exact q4 j h1 h2, bnd_suffix h.suf q5, q6.imp id (bnd_suffix h.suf)⟩
theorem OwnE.notWk {w : World} {base B lb : Nat} {v : Value} {es r : List Ec} (h : OwnE w base v es) (hw : WkAt w B lb r) : v.ownBlock ≠ some lb := fun e => by
  obtain ⟨A, c, hc, _⟩ := hw
  rcases h.2 with ⟨e1, _⟩ | ⟨g, cap, cur, e1, _, hh, _⟩
  · rw [e1] at e; cases e
  · rw [e1] at e
    cases e
    unfold Cells at hc
    rw [hh] at hc
    cases hc
/-- WHERE both STANDS -/
structure BSt (w wr : World) (a b : List Ec) (v : Value) (k : ByteArray) (out ra rb : List Ec) : Prop where
  own : OwnE wr w.heap.size v out
  st : BothSt (fun j => max (topE a j) (topE b j)) out k
  len : out.length + leftE (bndE a ++ bndE b) k ≤ (bndE a ++ bndE b).length
  wa : WkAt wr w.heap.size w.heap.size ra
  wb : WkAt wr w.heap.size (w.heap.size + 1) rb
  la : LeftAt a ra k
  lb : LeftAt b rb k
  bel : Below w.heap.size w wr
/-- what both tells -/
structure BothP (w w' : World) (a b : List Ec) (v : Value) (out : List Ec) : Prop where
  own : OwnE w' w.heap.size v out
  plain : PlainE out
  top : ∀ j, topE out j = max (topE a j) (topE b j)
  len : out.length ≤ 2 * (a.length + b.length)
  bel : Below w.heap.size w w'
section
set_option maxRecDepth 100000
set_option maxHeartbeats 8000000
theorem both_any (A B : Option Addr) (ca cb : Nat) (a b : List Ec) (w : World) (ha : RE w w.heap.size A a) (hb : RE w w.heap.size B b) (hca : a.length ≤ ca) (hcb : b.length ≤ cb) (pa : PlainE a) (pb : PlainE b) (hl : a.length + b.length ≤ 100000000000) :
    Calls Try.prog 38 #[.slice A a.length ca, .slice B b.length cb] w fun r w' => ∃ v out, r = .returned v ∧ BothP w w' a b v out := by
  have HW1 := Lib.hid (walk_any A a.length ca w)
  have HW2 := Lib.hid (walk_any B b.length cb (w.alloc (.cells #[.slice A a.length ca] 22)))
  have H1 : Hid (WkAt ((w.alloc (.cells #[.slice A a.length ca] 22)).alloc (.cells #[.slice B b.length cb] 22)) w.heap.size w.heap.size a ∧ WkAt ((w.alloc (.cells #[.slice A a.length ca] 22)).alloc (.cells #[.slice B b.length cb] 22)) w.heap.size (w.heap.size + 1) b ∧ Below w.heap.size w ((w.alloc (.cells #[.slice A a.length ca] 22)).alloc (.cells #[.slice B b.length cb] 22))) := by
    have hB : Below w.heap.size w ((w.alloc (.cells #[.slice A a.length ca] 22)).alloc (.cells #[.slice B b.length cb] 22)) := ((Below.refl _ _).alloc (Nat.le_refl _) _).alloc (by simp) _
    have c2 := Cells.new (w.alloc (.cells #[.slice A a.length ca] 22)) #[.slice B b.length cb] 22
    rw [show (w.alloc (.cells #[.slice A a.length ca] 22)).heap.size = w.heap.size + 1 by simp] at c2
    exact ⟨⟨A, ca, (Cells.new w _ _).alloc _, ha.below hB, hca, Nat.le_refl _⟩, ⟨B, cb, c2, hb.below hB, hcb, Nat.le_succ _⟩, hB⟩
  have HP : Hid (PlainE a ∧ PlainE b ∧ a.length + b.length ≤ 100000000000) := ⟨pa, pb, hl⟩
  rw [show (w.alloc (.cells #[.slice A a.length ca] 22)).heap.size = w.heap.size + 1 by simp] at HW2
  clear ha hb hca hcb pa pb hl
  go_enter Try.func38, Try.ntmps38
  go_wp2_with fail
  refine HW1.out.mono ?_
  rintro e w1 ⟨rfl, rfl⟩
  go_wp2_with fail
  refine HW2.out.mono ?_
  rintro e w2 ⟨rfl, hw2⟩
  have H2 : Hid (WkAt w2 w.heap.size w.heap.size a ∧ WkAt w2 w.heap.size (w.heap.size + 1) b ∧ Below w.heap.size w w2) := by rw [hw2]; exact H1.out
  clear hw2 HW1 HW2 H1
  go_wp2_with fail
  go_loopw [5, 8] (fun v kv wr => ∃ (k : ByteArray) (v' : Value), v = v' ∧ kv = .string k ∧ Hid (∃ out ra rb, BSt w wr a b v' k out ra rb)) (fun _ kv _ => match kv with | .string k => leftE (bndE a ++ bndE b) k | _ => 0)
  case atStart =>
    refine ⟨⟨#[]⟩, _, rfl, rfl, [], a, b, ⟨OwnE.nil _ _, BothSt.nil _, ?_, H2.out.1, H2.out.2.1, LeftAt.start _ _, LeftAt.start _ _, H2.out.2.2⟩⟩
    have := left_le (bndE a ++ bndE b) ⟨#[]⟩
    simpa using this
  case round =>
    obtain ⟨k, v, ev, rfl, hst0⟩ := hrel
    obtain rfl := ev.symm
    obtain ⟨out, ra, rb, hst1⟩ := hst0.out
    have hst := Lib.hid hst1
    have hra : ra.length ≤ 100000000000 := by have := hst1.la.suf.length_le; have := HP.out.2.2; omega
    have hrb : rb.length ≤ 100000000000 := by have := hst1.lb.suf.length_le; have := HP.out.2.2; omega
    have HA := Lib.hid (walk1_any w.heap.size w.heap.size ra k wr hst1.wa (by omega) hst1.bel.size)
    have Hrb := Lib.hid hrb
    clear hst0 hst1 hra hrb H2
    go_wp2_with fail
    refine HA.out.mono ?_
    rintro e w3 ⟨rfl, hwa3, hk3⟩
    have hs3 := hk3.size
    have HB := Lib.hid (walk1_any w.heap.size (w.heap.size + 1) rb k w3 (hst.out.wb.kept hk3 (by omega) (fun b hb => by omega) hst.out.bel.size) (by have := Hrb.out; omega) (Nat.le_trans hst.out.bel.size hs3))
    have H3 : Hid (WkAt w3 w.heap.size w.heap.size (dropE k ra) ∧ Kept (fun k => k ≠ w.heap.size) wr w3) := ⟨hwa3, hk3⟩
    clear hwa3 hk3 hs3 HA
    go_wp2_with fail
    refine HB.out.mono ?_
    rintro e w4 ⟨rfl, hwb4, hk4⟩
    have hs4 := hk4.size
    have HF := Lib.hid (front_any (headE k ra) (headE k rb) w4)
    have H4 : Hid (WkAt w4 w.heap.size w.heap.size (dropE k ra) ∧ WkAt w4 w.heap.size (w.heap.size + 1) (dropE k rb) ∧ Kept (fun k => k ≠ w.heap.size ∧ k ≠ w.heap.size + 1) wr w4) :=
      ⟨H3.out.1.kept hk4 (by omega) (fun b hb => by omega) (by have := H3.out.2.size; have := hst.out.bel.size; omega), hwb4, (H3.out.2.mono fun _ _ q => q.1).trans (hk4.mono fun _ _ q => q.2)⟩
    clear hwb4 hk4 hs4 HB H3
    have Hat : Hid (AtE (fun j => max (topE a j) (topE b j)) (bndE a ++ bndE b) k (frontE (headE k ra) (headE k rb))) := front_at (hst.out.la.head HP.out.1) (hst.out.lb.head HP.out.2.1)
    generalize frontE (headE k ra) (headE k rb) = e at *
    go_wp2_with fail
    refine HF.out.mono ?_
    rintro r w5 ⟨rfl, hb5⟩
    have hq := fun W => eqlE_any e zeroE W
    rw [eV_zero] at hq
    obtain ⟨W6, hW6⟩ : ∃ W6, W6 = w5.alloc (.cells #[.string e.1, .string e.2.1, .int .u64 (e.2.2 : Int)] 32) := ⟨_, rfl⟩
    have hC6 : Cells W6 w5.heap.size 32 (cellE e) := by rw [hW6]; exact Cells.new w5 _ _
    have hk6 : Kept (fun k => k ≠ w.heap.size ∧ k ≠ w.heap.size + 1) wr W6 := by rw [hW6]; exact (H4.out.2.2.below hb5).alloc _
    have hk46 : Kept (fun _ => True) w4 W6 := by rw [hW6]; exact ((Kept.refl _ _).below hb5).alloc _
    have hO6 : OwnE W6 w.heap.size v out := hst.out.own.move fun g hg => hk6.block g (hst.out.own.ge g hg).2 ⟨fun q => hst.out.own.notWk hst.out.wa (by rw [hg, q]), fun q => hst.out.own.notWk hst.out.wb (by rw [hg, q])⟩
    have hs6 : w.heap.size ≤ W6.heap.size := Nat.le_trans hst.out.bel.size hk6.size
    have hs4 : w.heap.size ≤ w4.heap.size := Nat.le_trans hst.out.bel.size H4.out.2.2.size
    have H6 : Hid (Cells W6 w5.heap.size 32 (cellE e) ∧ OwnE W6 w.heap.size v out ∧ WkAt W6 w.heap.size w.heap.size (dropE k ra) ∧ WkAt W6 w.heap.size (w.heap.size + 1) (dropE k rb) ∧ Below w.heap.size w W6 ∧ w4.heap.size ≤ w5.heap.size) :=
      ⟨hC6, hO6, H4.out.1.kept hk46 trivial (fun _ _ => trivial) hs4, H4.out.2.1.kept hk46 trivial (fun _ _ => trivial) hs4, hst.out.bel.trans (hk6.to_below (fun b hb => ⟨by omega, by omega⟩) hst.out.bel.size), hb5.size⟩
    have c0 := hC6.cell (i := 0) rfl
    have c1 := hC6.cell (i := 1) rfl
    have c2 := hC6.cell (i := 2) rfl
    have hol : out.length ≤ 200000000000 := by
      have h1 := hst.out.len
      rw [List.length_append, bnd_len, bnd_len] at h1
      have := HP.out.2.2
      omega
    have HJ := Lib.hid (joined_any out e w.heap.size v W6 hO6 hs6 (by omega))
    have Hv : Hid (∀ g, v.ownBlock = some g → g < wr.heap.size) := fun g hg => (hst.out.own.ge g hg).2
    have Hw5 : Hid (wr.heap.size ≤ w5.heap.size) := Nat.le_trans H4.out.2.2.size hb5.size
    clear hb5 hC6 hk6 hk46 hO6 hs6 hs4 HF H4 hol
    unfold eV at HJ ⊢ hq
    by_cases h0 : e = zeroE
    · rw [decide_eq_true h0] at hq
      have Hf : Hid (BothP w W6 a b v out) := by
        refine ⟨H6.out.2.1, hst.out.st.plain, hst.out.st.done Hat.out h0, ?_, H6.out.2.2.2.2.1⟩
        have h1 := hst.out.len
        rw [List.length_append, bnd_len, bnd_len] at h1
        omega
      clear h0 HJ Hat
      go_upto_region 5 with fail
      rw [← hW6]
      clear hW6
      go_wp2_with fail
      go_ret
      exact ⟨v, out, rfl, Hf.out⟩
    · rw [decide_eq_false h0] at hq
      have Hstep : Hid (BothSt (fun j => max (topE a j) (topE b j)) (joinE out e) e.2.1 ∧ kl k e.2.1 ∧ e.2.1 ∈ bndE a ++ bndE b) := hst.out.st.step Hat.out h0
      clear h0 Hat
      go_upto_region 5 with fail
      rw [← hW6]
      clear hW6
      go_wp2_with fail
      refine HJ.out.mono ?_
      rintro r w7 ⟨v7, rfl, ho7, hk7⟩
      have hne : v.ownBlock ≠ some w5.heap.size := fun q => by have := Hv.out _ q; have := Hw5.out; omega
      have hC7 : Cells w7 w5.heap.size 32 (cellE e) := H6.out.1.move (hk7.block _ H6.out.1.lt hne)
      have c1' := hC7.cell (i := 1) rfl
      have Hn : Hid (BSt w w7 a b v7 e.2.1 (joinE out e) (dropE k ra) (dropE k rb)) := by
        refine ⟨ho7, Hstep.out.1, ?_, ?_, ?_, hst.out.la.drop.up Hstep.out.2.1.ke, hst.out.lb.drop.up Hstep.out.2.1.ke, ?_⟩
        · have h1 := hst.out.len
          have h2 := left_less Hstep.out.2.1 Hstep.out.2.2
          have h3 := join_len out e
          omega
        · exact H6.out.2.2.1.kept hk7 (H6.out.2.1.notWk H6.out.2.2.1) (fun b hb q => by have := (H6.out.2.1.ge b q).1; omega) H6.out.2.2.2.2.1.size
        · exact H6.out.2.2.2.1.kept hk7 (H6.out.2.1.notWk H6.out.2.2.2.1) (fun b hb q => by have := (H6.out.2.1.ge b q).1; omega) H6.out.2.2.2.2.1.size
        · exact H6.out.2.2.2.2.1.trans (hk7.to_below (fun b hb q => by have := (H6.out.2.1.ge b q).1; omega) H6.out.2.2.2.2.1.size)
      have Hm : Hid (leftE (bndE a ++ bndE b) e.2.1 < leftE (bndE a ++ bndE b) k) := left_less Hstep.out.2.1 Hstep.out.2.2
      clear hne hC7 ho7 hk7 c0 c1 c2 HJ H6 Hstep
      go_wp2_with fail
      go_roundw
      case rel => exact ⟨e.2.1, v7, rfl, rfl, _, _, _, Hn.out⟩
      case measure => exact Hm.out
end
end Go.Proofs.Ytghcfmkmndldoaa
