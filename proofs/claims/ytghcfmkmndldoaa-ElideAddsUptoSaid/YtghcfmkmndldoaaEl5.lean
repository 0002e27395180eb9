/-
  front: two stretches laid upon each other.
-/
import Derived.Test.YtghcfmkmndldoaaEl4
import Derived.Lib.MinMax
namespace Go.Proofs.Ytghcfmkmndldoaa
open Go.RowKit Go.Sort Go.Lib

theorem run_max_K {P : Program} (w : World) (ts : Array TypeId) (t : TypeId) (x y : ByteArray) : (Builtin.max_ ts t #[.string x, .string y]).run P w = .ok (.string (maxK x y)) w := by
  unfold maxK
  cases h : Op.bytesLess x.toList y.toList <;> simp [Builtin.max_, Builtin.max2, Op.stringOp, asBool, h]
theorem run_min_K {P : Program} (w : World) (ts : Array TypeId) (t : TypeId) (x y : ByteArray) : (Builtin.min_ ts t #[.string x, .string y]).run P w = .ok (.string (minK x y)) w := by
  unfold minK
  rcases less_total x.toList y.toList with h | h | h
  · simp [Builtin.min_, Builtin.min2, Op.stringOp, asBool, h, less_asymm h]
  · have := array_inj h
    subst this
    simp [Builtin.min_, Builtin.min2, Op.stringOp, asBool, less_irrefl]
  · have h2 : ¬ x.toList = y.toList := fun e => by rw [e, less_irrefl] at h; cases h
    simp [Builtin.min_, Builtin.min2, Op.stringOp, asBool, h, less_asymm h, h2]
theorem eqlE_any (e f : Ec) (w : World) : (binOp .eql 32 (eV e) (eV f)).run Try.prog w = .ok (.bool (decide (e = f))) w := by
  obtain ⟨a, b, c⟩ := e
  obtain ⟨x, y, z⟩ := f
  unfold eV
  simp only [Prod.mk.injEq]
  by_cases h1 : a.toList = x.toList
  · have := array_inj h1
    subst this
    by_cases h2 : b.toList = y.toList
    · have := array_inj h2
      subst this
      by_cases h3 : c = z
      · subst h3
        simp [go_sem]
      · have h4 : ¬ (c : Int) = (z : Int) := by omega
        simp [go_sem, h3, h4]
    · have h5 : ¬ b = y := fun e => h2 (by rw [e])
      simp [go_sem, h2, h5]
  · have h5 : ¬ a = x := fun e => h1 (by rw [e])
    simp [go_sem, h1, h5]
theorem front_or {a b : Ec} (h : a = zeroE ∨ b = zeroE) : frontE a b = orL [a, b] := by
  unfold frontE orL
  by_cases ha : a = zeroE
  · subst ha
    rw [if_pos rfl, List.find?_cons_of_neg (by simp)]
    by_cases hb : b = zeroE
    · subst hb; rw [List.find?_cons_of_neg (by simp)]; rfl
    · rw [List.find?_cons_of_pos (by simpa using hb)]; rfl
  · have hb : b = zeroE := h.resolve_left ha
    rw [if_neg ha, if_pos hb, List.find?_cons_of_pos (by simpa using ha)]
    rfl
/-- the world in which front begins to look: its arguments, its answer, none -/
def frW (w : World) (a b : Ec) : World := (((w.alloc (.cells #[.string a.1, .string a.2.1, .int .u64 (a.2.2 : Int)] 32)).alloc (.cells #[.string b.1, .string b.2.1, .int .u64 (b.2.2 : Int)] 32)).alloc (.cells #[.string ⟨#[]⟩, .string ⟨#[]⟩, .int .u64 0] 32)).alloc (.cells #[.string ⟨#[]⟩, .string ⟨#[]⟩, .int .u64 0] 32)
theorem cells_other {w : World} {b : Nat} {t : TypeId} {cs : List Value} (h : Cells w b t cs) {p : Addr} (hp : b ≠ p.block) (u : Value) : Cells (w.setCell p u) b t cs := h.move (Below.heap_setCell _ _ _ _ hp)
theorem fr_below (w : World) (a b : Ec) : Below w.heap.size w (frW w a b) := by
  unfold frW
  exact ((((Below.refl _ _).alloc (Nat.le_refl _) _).alloc (by simp) _).alloc (by simp; omega) _).alloc (by simp; omega) _
theorem fr_cells (w : World) (a b : Ec) : Cells (frW w a b) (w.heap.size + 1 + 1) 32 [.string ⟨#[]⟩, .string ⟨#[]⟩, .int .u64 0] := by
  have := Cells.new ((w.alloc (.cells #[.string a.1, .string a.2.1, .int .u64 (a.2.2 : Int)] 32)).alloc (.cells #[.string b.1, .string b.2.1, .int .u64 (b.2.2 : Int)] 32)) #[.string ⟨#[]⟩, .string ⟨#[]⟩, .int .u64 0] 32
  have h2 := this.alloc (.cells #[.string ⟨#[]⟩, .string ⟨#[]⟩, .int .u64 0] 32)
  simpa [frW] using h2
theorem fr_done (w : World) (a b r : Ec) : Cells ((((w.alloc (.cells #[.string a.1, .string a.2.1, .int .u64 (a.2.2 : Int)] 32)).alloc (.cells #[.string b.1, .string b.2.1, .int .u64 (b.2.2 : Int)] 32)).alloc (.cells #[.string r.1, .string r.2.1, .int .u64 (r.2.2 : Int)] 32)).alloc (.cells #[.string ⟨#[]⟩, .string ⟨#[]⟩, .int .u64 0] 32)) (w.heap.size + 1 + 1) 32 (cellE r) ∧
    Below w.heap.size w ((((w.alloc (.cells #[.string a.1, .string a.2.1, .int .u64 (a.2.2 : Int)] 32)).alloc (.cells #[.string b.1, .string b.2.1, .int .u64 (b.2.2 : Int)] 32)).alloc (.cells #[.string r.1, .string r.2.1, .int .u64 (r.2.2 : Int)] 32)).alloc (.cells #[.string ⟨#[]⟩, .string ⟨#[]⟩, .int .u64 0] 32)) := by
  have := Cells.new ((w.alloc (.cells #[.string a.1, .string a.2.1, .int .u64 (a.2.2 : Int)] 32)).alloc (.cells #[.string b.1, .string b.2.1, .int .u64 (b.2.2 : Int)] 32)) #[.string r.1, .string r.2.1, .int .u64 (r.2.2 : Int)] 32
  have h2 := this.alloc (.cells #[.string ⟨#[]⟩, .string ⟨#[]⟩, .int .u64 0] 32)
  refine ⟨by simpa [cellE] using h2, ?_⟩
  exact ((((Below.refl _ _).alloc (Nat.le_refl _) _).alloc (by simp) _).alloc (by simp; omega) _).alloc (by simp; omega) _
section
set_option maxRecDepth 100000
set_option maxHeartbeats 1000000
attribute [local go_sem high] run_max_K run_min_K
theorem front_any (a b : Ec) (w : World) :
    Calls Try.prog 62 #[eV a, eV b] w fun r w' => r = .returned (eV (frontE a b)) ∧ Below w.heap.size w w' := by
  have hqa := fun W => eqlE_any a zeroE W
  have hqb := fun W => eqlE_any b zeroE W
  have Hor := Lib.hid (front_or (a := a) (b := b))
  have Hno : Hid (a ≠ zeroE → b ≠ zeroE → frontE a b = if Op.bytesLess b.1.toList a.1.toList = true then (b.1, minK b.2.1 a.1, b.2.2) else if Op.bytesLess a.1.toList b.1.toList = true then (a.1, minK a.2.1 b.1, a.2.2) else (a.1, minK a.2.1 b.2.1, max a.2.2 b.2.2)) := fun h1 h2 => by
    unfold frontE; rw [if_neg h1, if_neg h2]
  rw [eV_zero] at hqa hqb
  generalize frontE a b = r at *
  obtain ⟨a1, a2, a3⟩ := a
  obtain ⟨b1, b2, b3⟩ := b
  have hsz : (frW w (a1, a2, a3) (b1, b2, b3)).heap.size = w.heap.size + 1 + 1 + 1 + 1 := by simp [frW]
  have HC0 : Hid (Cells (frW w (a1, a2, a3) (b1, b2, b3)) (w.heap.size + 1 + 1) 32 [.string ⟨#[]⟩, .string ⟨#[]⟩, .int .u64 0] ∧ Below w.heap.size w (frW w (a1, a2, a3) (b1, b2, b3))) := ⟨fr_cells _ _ _, fr_below _ _ _⟩
  have HC : Hid (Cells ((frW w (a1, a2, a3) (b1, b2, b3)).alloc (.cells #[.string a1, .string a2, .int .u64 (a3 : Int), .string b1, .string b2, .int .u64 (b3 : Int)] 32)) (w.heap.size + 1 + 1) 32 [.string ⟨#[]⟩, .string ⟨#[]⟩, .int .u64 0] ∧ Below w.heap.size w ((frW w (a1, a2, a3) (b1, b2, b3)).alloc (.cells #[.string a1, .string a2, .int .u64 (a3 : Int), .string b1, .string b2, .int .u64 (b3 : Int)] 32))) := ⟨HC0.out.1.alloc _, HC0.out.2.alloc HC0.out.2.size _⟩
  have HO : Hid (Calls Try.prog 73 #[.slice (some ⟨w.heap.size + 1 + 1 + 1 + 1, 0, none⟩) 2 2] ((frW w (a1, a2, a3) (b1, b2, b3)).alloc (.cells #[.string a1, .string a2, .int .u64 (a3 : Int), .string b1, .string b2, .int .u64 (b3 : Int)] 32)) fun r w' => r = .returned (eV (orL [(a1, a2, a3), (b1, b2, b3)])) ∧ Below ((frW w (a1, a2, a3) (b1, b2, b3)).alloc (.cells #[.string a1, .string a2, .int .u64 (a3 : Int), .string b1, .string b2, .int .u64 (b3 : Int)] 32)).heap.size ((frW w (a1, a2, a3) (b1, b2, b3)).alloc (.cells #[.string a1, .string a2, .int .u64 (a3 : Int), .string b1, .string b2, .int .u64 (b3 : Int)] 32)) w') := by
    rw [← hsz]
    refine or_any [(a1, a2, a3), (b1, b2, b3)] _ 2 _ (by simp) ?_
    have hc := Cells.new (frW w (a1, a2, a3) (b1, b2, b3)) #[.string a1, .string a2, .int .u64 (a3 : Int), .string b1, .string b2, .int .u64 (b3 : Int)] 32
    intro k p hk
    have hk2 : k < 2 := by have := (List.getElem?_eq_some_iff.1 hk).1; simpa using this
    rcases (by omega : k = 0 ∨ k = 1) with rfl | rfl
    · cases hk
      exact ⟨_, 0, rfl, by simp, hc.cell (i := 0) rfl, hc.cell (i := 1) rfl, hc.cell (i := 2) rfl⟩
    · cases hk
      exact ⟨_, 0, rfl, by simp, hc.cell (i := 3) rfl, hc.cell (i := 4) rfl, hc.cell (i := 5) rfl⟩
  clear hsz
  unfold frW at HO HC HC0
  unfold eV at hqa hqb ⊢
  dsimp only at hqa hqb Hno HO HC HC0 ⊢
  by_cases ha : (a1, a2, a3) = zeroE
  · rw [decide_eq_true ha] at hqa
    have Hr := Lib.hid (Hor.out (.inl ha))
    clear ha hqb Hno Hor
    go_enter Try.func62, Try.ntmps62
    go_wp2_with fail
    refine (HO.out).mono ?_
    rintro e w2 ⟨rfl, hb2⟩
    have hC := (HC.out.1.move (hb2.block _ HC.out.1.lt))
    have hbel : Below w.heap.size w w2 := HC.out.2.trans (hb2.mono HC.out.2.size)
    have f0 := hC.frozen 0
    have f1 := hC.frozen 1
    have f2 := hC.frozen 2
    have c0 := hC.cell (i := 0) rfl
    have c1 := hC.cell (i := 1) rfl
    have c2 := hC.cell (i := 2) rfl
    rw [← Hr.out]
    unfold eV
    have H2 : Hid (Cells w2 (w.heap.size + 1 + 1) 32 [.string ⟨#[]⟩, .string ⟨#[]⟩, .int .u64 0] ∧ Below w.heap.size w w2) := ⟨hC, hbel⟩
    clear hC hbel hb2 HO HC
    go_wp2_with fail
    refine bodyPost_ret (v := eV r) (res_cell rfl _ _ _ _ rfl (load_el _ _ _ ?_)) rfl ⟨rfl, ?_⟩
    · exact set3 H2.out.1 r
    · exact below_set3 H2.out.2 (by omega) _ _ _
  by_cases hb : (b1, b2, b3) = zeroE
  · rw [decide_eq_true hb] at hqb
    rw [decide_eq_false ha] at hqa
    have Hr := Lib.hid (Hor.out (.inr hb))
    clear ha hb Hno Hor
    go_enter Try.func62, Try.ntmps62
    go_wp2_with fail
    refine (HO.out).mono ?_
    rintro e w2 ⟨rfl, hb2⟩
    have hC := (HC.out.1.move (hb2.block _ HC.out.1.lt))
    have hbel : Below w.heap.size w w2 := HC.out.2.trans (hb2.mono HC.out.2.size)
    have f0 := hC.frozen 0
    have f1 := hC.frozen 1
    have f2 := hC.frozen 2
    have c0 := hC.cell (i := 0) rfl
    have c1 := hC.cell (i := 1) rfl
    have c2 := hC.cell (i := 2) rfl
    rw [← Hr.out]
    unfold eV
    have H2 : Hid (Cells w2 (w.heap.size + 1 + 1) 32 [.string ⟨#[]⟩, .string ⟨#[]⟩, .int .u64 0] ∧ Below w.heap.size w w2) := ⟨hC, hbel⟩
    clear hC hbel hb2 HO HC
    go_wp2_with fail
    refine bodyPost_ret (v := eV r) (res_cell rfl _ _ _ _ rfl (load_el _ _ _ ?_)) rfl ⟨rfl, ?_⟩
    · exact set3 H2.out.1 r
    · exact below_set3 H2.out.2 (by omega) _ _ _
  · rw [decide_eq_false hb] at hqb
    rw [decide_eq_false ha] at hqa
    have Hr := Lib.hid (Hno.out ha hb)
    clear ha hb Hno Hor
    cases h1 : Op.bytesLess b1.toList a1.toList with
    | true =>
      have h2 := less_asymm h1
      go_enter Try.func62, Try.ntmps62
      go_wp2_with fail
      refine bodyPost_ret (v := eV r) (res_cell rfl _ _ _ _ rfl (load_el _ _ _ ?_)) rfl ⟨rfl, ?_⟩
      · rw [Hr.out, if_pos h1]; exact (fr_done w (b1, b2, b3) (a1, a2, a3) (b1, minK b2 a1, b3)).1
      · exact (fr_done w (b1, b2, b3) (a1, a2, a3) (b1, minK b2 a1, b3)).2
    | false =>
      cases h2 : Op.bytesLess a1.toList b1.toList with
      | true =>
        go_enter Try.func62, Try.ntmps62
        go_wp2_with fail
        refine bodyPost_ret (v := eV r) (res_cell rfl _ _ _ _ rfl (load_el _ _ _ ?_)) rfl ⟨rfl, ?_⟩
        · rw [Hr.out, if_neg (by rw [h1]; simp), if_pos h2]
          exact (fr_done w (a1, a2, a3) (b1, b2, b3) (a1, minK a2 b1, a3)).1
        · exact (fr_done w (a1, a2, a3) (b1, b2, b3) (a1, minK a2 b1, a3)).2
      | false =>
        go_enter Try.func62, Try.ntmps62
        go_wp2_with fail
        rw [show max (a3 : Int) (b3 : Int) = ((max a3 b3 : Nat) : Int) by omega]
        refine bodyPost_ret (v := eV r) (res_cell rfl _ _ _ _ rfl (load_el _ _ _ ?_)) rfl ⟨rfl, ?_⟩
        · rw [Hr.out, if_neg (by rw [h1]; simp), if_neg (by rw [h2]; simp)]
          exact (fr_done w (a1, a2, a3) (b1, b2, b3) (a1, minK a2 b2, max a3 b3)).1
        · exact (fr_done w (a1, a2, a3) (b1, b2, b3) (a1, minK a2 b2, max a3 b3)).2
end
end Go.Proofs.Ytghcfmkmndldoaa
