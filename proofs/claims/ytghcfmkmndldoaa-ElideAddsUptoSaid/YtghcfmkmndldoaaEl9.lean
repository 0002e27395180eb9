/-
  slices.Clone of elisions; madePlain.
-/
import Derived.Test.YtghcfmkmndldoaaEl8
import Derived.Deep.RegionHeldLaw
namespace Go.Proofs.Ytghcfmkmndldoaa
open Go.RowKit Go.Sort Go.Lib

theorem eqlE_nil (w : World) (A : Option Addr) (n c : Nat) : (binOp .eql 22 (.slice A n c) (.slice none 0 0)).run Try.prog w = .ok (.bool A.isNone) w :=
  Lib.run_eql_slice_nil w _ 32 A n c 0 0 Try.underlying22
theorem cutLE_run (b o n c h : Nat) (h1 : h ≤ n) (h2 : n ≤ c) : ∀ W : World, (Instr.sliceAt 22 (.slice (some ⟨b, o, none⟩) n c) none (some (.int .i64 (h : Int))) none).run Try.prog W = .ok (.slice (some ⟨b, o, none⟩) h c) W := by
  intro W
  have h3 : (h : Int) ≤ (c : Int) := by omega
  simp [go_sem, h3, sliced, Addr.add]
  try omega
theorem cutHE_run (b o n c h : Nat) (h0 : 0 < h) (h1 : h < n) (h2 : n ≤ c) : ∀ W : World, (Instr.sliceAt 22 (.slice (some ⟨b, o, none⟩) n c) (some (.int .i64 (h : Int))) none none).run Try.prog W = .ok (.slice (some ⟨b, o + h * 3, none⟩) (n - h) (c - h)) W := by
  intro W
  have h3 : (h : Int) ≤ (n : Int) := by omega
  have h4 : ¬ h = c := by omega
  have h5 : ¬ c = h := by omega
  have h6 : ¬ h = 0 := by omega
  have h7 : ¬ h * 3 = 0 := by omega
  simp [go_sem, h3, h4, h5, h7, sliced, Addr.add]
theorem top_take_drop (es : List Ec) (h : Nat) (j : ByteArray) : topE es j = max (topE (es.take h) j) (topE (es.drop h) j) := by
  rw [← top_append, List.take_append_drop]
/-- what madePlain tells -/
structure MadeP (w w' : World) (es : List Ec) (v : Value) (out : List Ec) : Prop where
  own : OwnE w' w.heap.size v out
  plain : PlainE out
  top : ∀ j, topE out j = topE es j
  len : out.length + es.length ≤ 2 * (es.length * es.length)
  bel : Below w.heap.size w w'
theorem sq_half {n h a b : Nat} (hh : h = n / 2) (hn : 2 ≤ n) (ha : a + h ≤ 2 * (h * h)) (hb : b + (n - h) ≤ 2 * ((n - h) * (n - h))) : 2 * (a + b) + n ≤ 2 * (n * n) := by
  have e1 : (h + 1) * (h + 1) = h * h + 2 * h + 1 := by simp [Nat.add_mul, Nat.mul_add]; omega
  rcases (by omega : n = h + h ∨ n = h + (h + 1)) with e | e
  · have e2 : n - h = h := by omega
    have e3 : n * n = 4 * (h * h) := by rw [e]; simp only [Nat.add_mul, Nat.mul_add]; omega
    rw [e2] at hb
    omega
  · have e2 : n - h = h + 1 := by omega
    have e3 : n * n = 4 * (h * h) + 4 * h + 1 := by rw [e]; simp only [Nat.add_mul, Nat.mul_add]; omega
    rw [e2, e1] at hb
    omega
section
set_option maxRecDepth 100000
set_option maxHeartbeats 8000000
theorem cloneE_any (A : Option Addr) (c : Nat) (es : List Ec) (w : World) (hr : RE w w.heap.size A es) (hl : es.length ≤ 1099511627776) :
    Calls Try.prog 41 #[.slice A es.length c] w fun e w' => ∃ v, e = .returned v ∧ OwnE w' w.heap.size v es ∧ Below w.heap.size w w' := by
  have Hr := Lib.hid hr
  have Hl := Lib.hid hl
  clear hr hl
  rcases A with _ | ad
  · have h0 : es = [] := Hr.out.none_nil
    subst h0
    have hq := fun W => eqlE_nil W none 0 c
    go_enter Try.func41, Try.ntmps41
    go_wp2_with fail
    go_ret
    exact ⟨_, rfl, OwnE.nil _ _, Below.refl _ _⟩
  · have hq := fun W => eqlE_nil W (some ad) es.length c
    have Hm : Hid (OwnE (w.alloc (.cells #[] 32)) w.heap.size (.slice (some ⟨w.heap.size, 0, none⟩) 0 0) []) := World.ownsRow_made w #[] 0 (Nat.le_refl _) (by simp [maxLen]) (by simp)
    go_enter Try.func41, Try.ntmps41
    go_wp2_with (at_builtin; refine app_elisions (es := []) (fs := es) rfl (.tmp 5) (.tmp 6) rfl rfl Hm.out es.length c rfl rfl (Hr.out.below ((Below.refl _ _).alloc (Nat.le_refl _) _)) (by have := Hl.out; simp; omega) (by simp) ?_; intro v1 w1 hown hg _; have H1 : Hid (OwnE w1 w.heap.size v1 es ∧ Below w.heap.size w w1) := ⟨by simpa using hown, ((Below.refl _ _).alloc (Nat.le_refl _) _).trans (Hm.out.grownB hg (by simp))⟩; clear hown hg)
    go_ret
    exact ⟨v1, rfl, H1.out⟩
theorem made_any : ∀ (N : Nat) (A : Option Addr) (c : Nat) (es : List Ec) (w : World), es.length ≤ N → N ≤ 100000 → es.length ≤ c → (∀ e ∈ es, kl e.1 e.2.1) → RE w w.heap.size A es →
    Calls Try.prog 33 #[.slice A es.length c] w fun r w' => ∃ v out, r = .returned v ∧ MadeP w w' es v out := by
  intro N
  induction N with
  | zero =>
    intro A c es w hN _ hc hk hr
    obtain rfl : es = [] := List.eq_nil_of_length_eq_zero (by omega)
    have HC := Lib.hid (cloneE_any A c [] w hr (by simp))
    clear hr hc hk
    go_enter Try.func33, Try.ntmps33
    go_wp2_with fail
    refine HC.out.mono ?_
    rintro e w1 ⟨v, rfl, ho, hb⟩
    have H1 : Hid (MadeP w w1 [] v []) := ⟨ho, PlainE.nil, fun _ => rfl, by simp, hb⟩
    clear ho hb HC
    go_wp2_with fail
    go_ret
    exact ⟨v, [], rfl, H1.out⟩
  | succ N ih =>
    intro A c es w hN hN9 hc hk hr
    by_cases h2 : es.length < 2
    · have HC := Lib.hid (cloneE_any A c es w hr (by omega))
      have Hp : Hid (PlainE es ∧ es.length + es.length ≤ 2 * (es.length * es.length)) := by
        rcases es with _ | ⟨e, _ | ⟨f, es⟩⟩
        · exact ⟨PlainE.nil, by simp⟩
        · exact ⟨PlainE.one (hk e (by simp)), by simp⟩
        · rw [List.length_cons, List.length_cons] at h2; omega
      have h2' : (es.length : Int) < 2 := by omega
      clear hr hc hk ih hN hN9 h2
      go_enter Try.func33, Try.ntmps33
      go_wp2_with fail
      refine HC.out.mono ?_
      rintro e w1 ⟨v, rfl, ho, hb⟩
      have H1 : Hid (MadeP w w1 es v es) := ⟨ho, Hp.out.1, fun _ => rfl, Hp.out.2, hb⟩
      clear ho hb HC
      go_wp2_with fail
      go_ret
      exact ⟨v, es, rfl, H1.out⟩
    · obtain ⟨n, hn⟩ : ∃ n, n = es.length := ⟨_, rfl⟩
      obtain ⟨b, o, rfl, _⟩ := hr.flat (by omega)
      obtain ⟨h, hh⟩ : ∃ h, h = n / 2 := ⟨_, rfl⟩
      have hh1 : h < n ∧ 0 < h ∧ n - h ≤ N ∧ h ≤ N := by omega
      have hq : IntKind.i64.wrap ((n : Int).tdiv 2) = (h : Int) := by
        rw [show (n : Int).tdiv 2 = (h : Int) by rw [Int.tdiv_eq_ediv_of_nonneg (by omega)]; omega, IntKind.wrap_i64]; omega
      have hwh : IntKind.i64.wrap (h : Int) = (h : Int) := by rw [IntKind.wrap_i64]; omega
      have hq2 : (n : Int).tdiv 2 = (h : Int) := by rw [Int.tdiv_eq_ediv_of_nonneg (by omega)]; omega
      have hs1 := cutLE_run b o n c h (by omega) (by omega)
      have hs2 := cutHE_run b o n c h (by omega) (by omega) (by omega)
      have Htd := Lib.hid (top_take_drop es h)
      have lt1 : (es.take h).length = h := by rw [List.length_take]; omega
      have lt2 : (es.drop h).length = n - h := by rw [List.length_drop]; omega
      have HM1 : Hid (∀ W, Below w.heap.size w W → Calls Try.prog 33 #[.slice (some ⟨b, o, none⟩) h c] W fun r w' => ∃ A' c' out, r = .returned (.slice A' out.length c') ∧ out.length ≤ c' ∧ RE w' w'.heap.size A' out ∧ PlainE out ∧ (∀ j, topE out j = topE (es.take h) j) ∧ out.length + h ≤ 2 * (h * h) ∧ Below W.heap.size W w') := fun W hW => by
        have := ih (some ⟨b, o, none⟩) c (es.take h) W (by omega) (by omega) (by omega) (fun e he => hk e (List.mem_of_mem_take he)) (((hr.take h).below hW).wide hW.size)
        rw [lt1] at this
        refine this.mono ?_
        rintro r w' ⟨v, out, rfl, hm⟩
        obtain ⟨A', c', rfl, q1, _, q2, _⟩ := hm.own.rd
        have h9 := hm.len
        rw [lt1] at h9
        exact ⟨A', c', out, rfl, q1, q2, hm.plain, hm.top, h9, hm.bel⟩
      have HM2 : Hid (∀ W, Below w.heap.size w W → Calls Try.prog 33 #[.slice (some ⟨b, o + h * 3, none⟩) (n - h) (c - h)] W fun r w' => ∃ A' c' out, r = .returned (.slice A' out.length c') ∧ out.length ≤ c' ∧ RE w' w'.heap.size A' out ∧ PlainE out ∧ (∀ j, topE out j = topE (es.drop h) j) ∧ out.length + (n - h) ≤ 2 * ((n - h) * (n - h)) ∧ Below W.heap.size W w') := fun W hW => by
        have := ih (some ⟨b, o + h * 3, none⟩) (c - h) (es.drop h) W (by omega) (by omega) (by omega) (fun e he => hk e (List.mem_of_mem_drop he)) (((hr.cut h).below hW).wide hW.size)
        rw [lt2] at this
        refine this.mono ?_
        rintro r w' ⟨v, out, rfl, hm⟩
        obtain ⟨A', c', rfl, q1, _, q2, _⟩ := hm.own.rd
        have h9 := hm.len
        rw [lt2] at h9
        exact ⟨A', c', out, rfl, q1, q2, hm.plain, hm.top, h9, hm.bel⟩
      have HB : Hid (∀ Aa ca Ab cb (o1 o2 : List Ec) W, o1.length ≤ ca → o2.length ≤ cb → RE W W.heap.size Aa o1 → RE W W.heap.size Ab o2 → PlainE o1 → PlainE o2 → (∀ j, topE o1 j = topE (es.take h) j) → (∀ j, topE o2 j = topE (es.drop h) j) → o1.length + h ≤ 2 * (h * h) → o2.length + (n - h) ≤ 2 * ((n - h) * (n - h)) → Below w.heap.size w W →
          Calls Try.prog 38 #[.slice Aa o1.length ca, .slice Ab o2.length cb] W fun r w' => ∃ v out, r = .returned v ∧ Hid (MadeP w w' es v out)) := fun Aa ca Ab cb o1 o2 W q1 q2 q3 q4 p1 p2 t1 t2 l1 l2 hW => by
        have hsq := sq_half hh (by omega) l1 l2
        have hnn : n * n ≤ 100000 * 100000 := Nat.mul_le_mul (by omega) (by omega)
        refine Calls.mono (both_any Aa Ab ca cb o1 o2 W q3 q4 q1 q2 p1 p2 (by omega)) ?_
        rintro r w' ⟨v, out, rfl, hb⟩
        refine ⟨v, out, rfl, hb.own.wideB hW.size, hb.plain, fun j => by rw [hb.top, t1, t2, Htd.out], ?_, hW.trans (hb.bel.mono hW.size)⟩
        have := hb.len
        rw [← hn]
        omega
      have hn1 : (n : Int) ≤ 1099511627776 := by omega
      have hn2 : ¬ (n : Int) < 2 := by omega
      rw [← hn] at hc ⊢
      have HB0 : Hid (Below w.heap.size w w) := Below.refl _ _
      have HB1 : Hid (Below w.heap.size w w.drew) := (Below.refl _ _).drew
      clear hr hk ih hN hN9 h2 hn hh hh1 hc lt1 lt2 Htd
      go_enter Try.func33, Try.ntmps33
      go_upto_region 4 with fail
      go_region_law (first
        | (go_simp; go_at_call 33; refine (HM1.out _ (by first | exact HB0.out | exact HB1.out)).mono ?_; rintro e w1 ⟨A1, c1, o1, rfl, g1, r1, p1, t1, l1, b1⟩; have HB2 : Hid (Below w.heap.size w w1) := (by first | exact HB0.out.trans (b1.mono HB0.out.size) | exact HB1.out.trans (b1.mono HB1.out.size)); have HB3 : Hid (Below w.heap.size w w1.drew) := HB2.out.drew; have H1 : Hid (o1.length ≤ c1 ∧ RE w1 w1.heap.size A1 o1 ∧ PlainE o1 ∧ (∀ j, topE o1 j = topE (es.take h) j) ∧ o1.length + h ≤ 2 * (h * h)) := ⟨g1, r1, p1, t1, l1⟩; clear g1 r1 p1 t1 l1 b1 HM1)
        | (go_simp; go_at_call 33; refine (HM2.out _ (by first | exact HB2.out | exact HB3.out)).mono ?_; rintro e w2 ⟨A2, c2, o2, rfl, g2, r2, p2, t2, l2, b2⟩; have HB4 : Hid (Below w.heap.size w w2) := (by first | exact HB2.out.trans (b2.mono HB2.out.size) | exact HB3.out.trans (b2.mono HB3.out.size)); have b12 : Below w1.heap.size w1 w2 := (by first | exact b2 | exact ((Below.refl _ _).drew).trans b2); have H2 : Hid (o2.length ≤ c2 ∧ RE w2 w2.heap.size A1 o1 ∧ RE w2 w2.heap.size A2 o2 ∧ PlainE o2 ∧ (∀ j, topE o2 j = topE (es.drop h) j) ∧ o2.length + (n - h) ≤ 2 * ((n - h) * (n - h))) := ⟨g2, RE.now H1.out.2.1 b12, r2, p2, t2, l2⟩; clear g2 r2 p2 t2 l2 b2 b12 HM2)
        | (go_simp; go_at_call 38; refine (HB.out _ _ _ _ o1 o2 _ H1.out.1 H2.out.1 (by exact H2.out.2.1) (by exact H2.out.2.2.1) H1.out.2.2.1 H2.out.2.2.2.1 H1.out.2.2.2.1 H2.out.2.2.2.2.1 H1.out.2.2.2.2 H2.out.2.2.2.2.2 (by first | exact HB4.out | exact HB4.out.drew)).mono ?_; rintro e w3 ⟨v3, o3, rfl, H3⟩))
      all_goals
        go_wp2_with fail
        go_ret
        first | exact ⟨v3, o3, rfl, H3.out⟩ | exact ⟨v3, rfl, o3, H3.out⟩
end
end Go.Proofs.Ytghcfmkmndldoaa
