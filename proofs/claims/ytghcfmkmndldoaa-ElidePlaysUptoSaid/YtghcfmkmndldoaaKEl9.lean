/-
  slices.Clone of elisions; madePlain.
-/
import Derived.Test.YtghcfmkmndldoaaKEl5
import Derived.Deep.RegionHeldLaw
namespace Go.Proofs.Ytghcfmkmndldoaa
open Go.RowKit Go.Sort Go.Lib

theorem eqlE_nil (w : World) (A : Option Addr) (n c : Nat) : (binOp .eql 22 (.slice A n c) (.slice none 0 0)).run Try.prog w = .ok (.bool A.isNone) w :=
  Lib.run_eql_slice_nil w _ 32 A n c 0 0 Try.underlying22
theorem cutLE_run (b o n c h : Nat) (h1 : h ≤ n) (h2 : n ≤ c) : ∀ W : World, (Instr.sliceAt 22 (.slice (some ⟨b, o, none⟩) n c) none (some (.int .i64 (h : Int))) none).run Try.prog W = .ok (.slice (some ⟨b, o, none⟩) h c) W := by
  intro W
  have h3 : (h : Int) ≤ (c : Int) := by omega
  simp [go_sem, h3, sliced, Addr.add]
  try omega
theorem cutHE_run (b o n c h : Nat) (h0 : 0 < h) (h1 : h < n) (h2 : n ≤ c) : ∀ W : World, (Instr.sliceAt 22 (.slice (some ⟨b, o, none⟩) n c) (some (.int .i64 (h : Int))) none none).run Try.prog W = .ok (.slice (some ⟨b, o + h * 3, none⟩) (n - h) (c - h)) W := by
  intro W
  have h3 : (h : Int) ≤ (n : Int) := by omega
  have h4 : ¬ h = c := by omega
  have h5 : ¬ c = h := by omega
  have h6 : ¬ h = 0 := by omega
  have h7 : ¬ h * 3 = 0 := by omega
  simp [go_sem, h3, h4, h5, h7, sliced, Addr.add]
theorem top_take_drop (es : List Ec) (h : Nat) (j : ByteArray) : topE es j = max (topE (es.take h) j) (topE (es.drop h) j) := by
  rw [← top_append, List.take_append_drop]
/-- what madePlain tells -/
structure MadeP (w w' : World) (es : List Ec) (v : Value) (out : List Ec) : Prop where
  own : OwnE w' w.heap.size v out
  plain : PlainE out
  top : ∀ j, topE out j = topE es j
  len : out.length + es.length ≤ 2 * (es.length * es.length)
  bel : Below w.heap.size w w'
theorem sq_half {n h a b : Nat} (hh : h = n / 2) (hn : 2 ≤ n) (ha : a + h ≤ 2 * (h * h)) (hb : b + (n - h) ≤ 2 * ((n - h) * (n - h))) : 2 * (a + b) + n ≤ 2 * (n * n) := by
  have e1 : (h + 1) * (h + 1) = h * h + 2 * h + 1 := by simp [Nat.add_mul, Nat.mul_add]; omega
  rcases (by omega : n = h + h ∨ n = h + (h + 1)) with e | e
  · have e2 : n - h = h := by omega
    have e3 : n * n = 4 * (h * h) := by rw [e]; simp only [Nat.add_mul, Nat.mul_add]; omega
    rw [e2] at hb
    omega
  · have e2 : n - h = h + 1 := by omega
    have e3 : n * n = 4 * (h * h) + 4 * h + 1 := by rw [e]; simp only [Nat.add_mul, Nat.mul_add]; omega
    rw [e2, e1] at hb
    omega
section
set_option maxRecDepth 100000
set_option maxHeartbeats 8000000
theorem cloneE_any (A : Option Addr) (c : Nat) (es : List Ec) (w : World) (hr : RE w w.heap.size A es) (hl : es.length ≤ 1099511627776) :
    Calls Try.prog 41 #[.slice A es.length c] w fun e w' => ∃ v, e = .returned v ∧ OwnE w' w.heap.size v es ∧ Below w.heap.size w w' := by
  have Hr := Lib.hid hr
  have Hl := Lib.hid hl
  clear hr hl
  rcases A with _ | ad
  · have h0 : es = [] := Hr.out.none_nil
    subst h0
    have hq := fun W => eqlE_nil W none 0 c
    go_enter Try.func41, Try.ntmps41
    go_wp2_with fail
    go_ret
    exact ⟨_, rfl, OwnE.nil _ _, Below.refl _ _⟩
  · have hq := fun W => eqlE_nil W (some ad) es.length c
    have Hm : Hid (OwnE (w.alloc (.cells #[] 32)) w.heap.size (.slice (some ⟨w.heap.size, 0, none⟩) 0 0) []) := World.ownsRow_made w #[] 0 (Nat.le_refl _) (by simp [maxLen]) (by simp)
    go_enter Try.func41, Try.ntmps41
    go_wp2_with (at_builtin; refine app_elisions (es := []) (fs := es) rfl (.tmp 5) (.tmp 6) rfl rfl Hm.out es.length c rfl rfl (Hr.out.below ((Below.refl _ _).alloc (Nat.le_refl _) _)) (by have := Hl.out; simp; omega) (by simp) ?_; intro v1 w1 hown hg _; have H1 : Hid (OwnE w1 w.heap.size v1 es ∧ Below w.heap.size w w1) := ⟨by simpa using hown, ((Below.refl _ _).alloc (Nat.le_refl _) _).trans (Hm.out.grownB hg (by simp))⟩; clear hown hg)
    go_ret
    exact ⟨v1, rfl, H1.out⟩
theorem made_any : ∀ (N : Nat) (A : Option Addr) (c : Nat) (es : List Ec) (w : World), es.length ≤ N → N ≤ 100000 → es.length ≤ c → (∀ e ∈ es, kl e.1 e.2.1) → RE w w.heap.size A es →
    Calls Try.prog 33 #[.slice A es.length c] w fun r w' => ∃ v out, r = .returned v ∧ MadeP w w' es v out := by
  intro N
  induction N with
  | zero =>
    intro A c es w hN _ hc hk hr
    obtain rfl : es = [] := List.eq_nil_of_length_eq_zero (by omega)
    have HC := Lib.hid (cloneE_any A c [] w hr (by simp))
    clear hr hc hk
    go_enter Try.func33, Try.ntmps33
    go_wp2_with fail
    refine HC.out.mono ?_
    rintro e w1 ⟨v, rfl, ho, hb⟩
    have H1 : Hid (MadeP w w1 [] v []) := ⟨ho, PlainE.nil, fun _ => rfl, by simp, hb⟩
    clear ho hb HC
    go_wp2_with fail
    go_ret
    exact ⟨v, [], rfl, H1.out⟩
  | succ N ih =>
    intro A c es w hN hN9 hc hk hr
    by_cases h2 : es.length < 2
    · have HC := Lib.hid (cloneE_any A c es w hr (by omega))
      have Hp : Hid (PlainE es ∧ es.length + es.length ≤ 2 * (es.length * es.length)) := by
        rcases es with _ | ⟨e, _ | ⟨f, es⟩⟩
        · exact ⟨PlainE.nil, by simp⟩
        · exact ⟨PlainE.one (hk e (by simp)), by simp⟩
        · rw [List.length_cons, List.length_cons] at h2; omega
      have h2' : (es.length : Int) < 2 := by omega
      clear hr hc hk ih hN hN9 h2
      go_enter Try.func33, Try.ntmps33
      go_wp2_with fail
      refine HC.out.mono ?_
      rintro e w1 ⟨v, rfl, ho, hb⟩
      have H1 : Hid (MadeP w w1 es v es) := ⟨ho, Hp.out.1, fun _ => rfl, Hp.out.2, hb⟩
      clear ho hb HC
      go_wp2_with fail
      go_ret
      exact ⟨v, es, rfl, H1.out⟩
    · obtain ⟨n, hn⟩ : ∃ n, n = es.length := ⟨_, rfl⟩
      obtain ⟨b, o, rfl, _⟩ := hr.flat (by omega)
      obtain ⟨h, hh⟩ : ∃ h, h = n / 2 := ⟨_, rfl⟩
      have hh1 : h < n ∧ 0 < h ∧ n - h ≤ N ∧ h ≤ N := by omega
      have hq : IntKind.i64.wrap ((n : Int).tdiv 2) = (h : Int) := by
        rw [show (n : Int).tdiv 2 = (h : Int) by rw [Int.tdiv_eq_ediv_of_nonneg (by omega)]; omega, IntKind.wrap_i64]; omega
      have hwh : IntKind.i64.wrap (h : Int) = (h : Int) := by rw [IntKind.wrap_i64]; omega
      have hq2 : (n : Int).tdiv 2 = (h : Int) := by rw [Int.tdiv_eq_ediv_of_nonneg (by omega)]; omega
      have hs1 := cutLE_run b o n c h (by omega) (by omega)
      have hs2 := cutHE_run b o n c h (by omega) (by omega) (by omega)
      have Htd := Lib.hid (top_take_drop es h)
      have lt1 : (es.take h).length = h := by rw [List.length_take]; omega
      have lt2 : (es.drop h).length = n - h := by rw [List.length_drop]; omega
      have HM1 : Hid (∀ W, Below w.heap.size w W → Calls Try.prog 33 #[.slice (some ⟨b, o, none⟩) h c] W fun r w' => ∃ A' c' out, r = .returned (.slice A' out.length c') ∧ out.length ≤ c' ∧ RE w' w'.heap.size A' out ∧ PlainE out ∧ (∀ j, topE out j = topE (es.take h) j) ∧ out.length + h ≤ 2 * (h * h) ∧ Below W.heap.size W w') := fun W hW => by
        have := ih (some ⟨b, o, none⟩) c (es.take h) W (by omega) (by omega) (by omega) (fun e he => hk e (List.mem_of_mem_take he)) (((hr.take h).below hW).wide hW.size)
        rw [lt1] at this
        refine this.mono ?_
        rintro r w' ⟨v, out, rfl, hm⟩
        obtain ⟨A', c', rfl, q1, _, q2, _⟩ := hm.own.rd
        have h9 := hm.len
        rw [lt1] at h9
        exact ⟨A', c', out, rfl, q1, q2, hm.plain, hm.top, h9, hm.bel⟩
      have HM2 : Hid (∀ W, Below w.heap.size w W → Calls Try.prog 33 #[.slice (some ⟨b, o + h * 3, none⟩) (n - h) (c - h)] W fun r w' => ∃ A' c' out, r = .returned (.slice A' out.length c') ∧ out.length ≤ c' ∧ RE w' w'.heap.size A' out ∧ PlainE out ∧ (∀ j, topE out j = topE (es.drop h) j) ∧ out.length + (n - h) ≤ 2 * ((n - h) * (n - h)) ∧ Below W.heap.size W w') := fun W hW => by
        have := ih (some ⟨b, o + h * 3, none⟩) (c - h) (es.drop h) W (by omega) (by omega) (by omega) (fun e he => hk e (List.mem_of_mem_drop he)) (((hr.cut h).below hW).wide hW.size)
        rw [lt2] at this
        refine this.mono ?_
        rintro r w' ⟨v, out, rfl, hm⟩
        obtain ⟨A', c', rfl, q1, _, q2, _⟩ := hm.own.rd
        have h9 := hm.len
        rw [lt2] at h9
        exact ⟨A', c', out, rfl, q1, q2, hm.plain, hm.top, h9, hm.bel⟩
      have HB : Hid (∀ Aa ca Ab cb (o1 o2 : List Ec) W, o1.length ≤ ca → o2.length ≤ cb → RE W W.heap.size Aa o1 → RE W W.heap.size Ab o2 → PlainE o1 → PlainE o2 → (∀ j, topE o1 j = topE (es.take h) j) → (∀ j, topE o2 j = topE (es.drop h) j) → o1.length + h ≤ 2 * (h * h) → o2.length + (n - h) ≤ 2 * ((n - h) * (n - h)) → Below w.heap.size w W →
          Calls Try.prog 38 #[.slice Aa o1.length ca, .slice Ab o2.length cb] W fun r w' => ∃ v out, r = .returned v ∧ Hid (MadeP w w' es v out)) := fun Aa ca Ab cb o1 o2 W q1 q2 q3 q4 p1 p2 t1 t2 l1 l2 hW => by
        have hsq := sq_half hh (by omega) l1 l2
        have hnn : n * n ≤ 100000 * 100000 := Nat.mul_le_mul (by omega) (by omega)
        refine Calls.mono (both_any Aa Ab ca cb o1 o2 W q3 q4 q1 q2 p1 p2 (by omega)) ?_
        rintro r w' ⟨v, out, rfl, hb⟩
        refine ⟨v, out, rfl, hb.own.wideB hW.size, hb.plain, fun j => by rw [hb.top, t1, t2, Htd.out], ?_, hW.trans (hb.bel.mono hW.size)⟩
        have := hb.len
        rw [← hn]
        omega
      have hn1 : (n : Int) ≤ 1099511627776 := by omega
      have hn2 : ¬ (n : Int) < 2 := by omega
      rw [← hn] at hc ⊢
      have HB0 : Hid (Below w.heap.size w w) := Below.refl _ _
      have HB1 : Hid (Below w.heap.size w w.drew) := (Below.refl _ _).drew
      clear hr hk ih hN hN9 h2 hn hh hh1 hc lt1 lt2 Htd
      go_enter Try.func33, Try.ntmps33
      go_upto_region 4 with fail
      go_region_law (first
        | (go_simp; go_at_call 33; refine (HM1.out _ (by first | exact HB0.out | exact HB1.out)).mono ?_; rintro e w1 ⟨A1, c1, o1, rfl, g1, r1, p1, t1, l1, b1⟩; have HB2 : Hid (Below w.heap.size w w1) := (by first | exact HB0.out.trans (b1.mono HB0.out.size) | exact HB1.out.trans (b1.mono HB1.out.size)); have HB3 : Hid (Below w.heap.size w w1.drew) := HB2.out.drew; have H1 : Hid (o1.length ≤ c1 ∧ RE w1 w1.heap.size A1 o1 ∧ PlainE o1 ∧ (∀ j, topE o1 j = topE (es.take h) j) ∧ o1.length + h ≤ 2 * (h * h)) := ⟨g1, r1, p1, t1, l1⟩; clear g1 r1 p1 t1 l1 b1 HM1)
        | (go_simp; go_at_call 33; refine (HM2.out _ (by first | exact HB2.out | exact HB3.out)).mono ?_; rintro e w2 ⟨A2, c2, o2, rfl, g2, r2, p2, t2, l2, b2⟩; have HB4 : Hid (Below w.heap.size w w2) := (by first | exact HB2.out.trans (b2.mono HB2.out.size) | exact HB3.out.trans (b2.mono HB3.out.size)); have b12 : Below w1.heap.size w1 w2 := (by first | exact b2 | exact ((Below.refl _ _).drew).trans b2); have H2 : Hid (o2.length ≤ c2 ∧ RE w2 w2.heap.size A1 o1 ∧ RE w2 w2.heap.size A2 o2 ∧ PlainE o2 ∧ (∀ j, topE o2 j = topE (es.drop h) j) ∧ o2.length + (n - h) ≤ 2 * ((n - h) * (n - h))) := ⟨g2, RE.now H1.out.2.1 b12, r2, p2, t2, l2⟩; clear g2 r2 p2 t2 l2 b2 b12 HM2)
        | (go_simp; go_at_call 38; refine (HB.out _ _ _ _ o1 o2 _ H1.out.1 H2.out.1 (by exact H2.out.2.1) (by exact H2.out.2.2.1) H1.out.2.2.1 H2.out.2.2.2.1 H1.out.2.2.2.1 H2.out.2.2.2.2.1 H1.out.2.2.2.2 H2.out.2.2.2.2.2 (by first | exact HB4.out | exact HB4.out.drew)).mono ?_; rintro e w3 ⟨v3, o3, rfl, H3⟩))
      all_goals
        go_wp2_with fail
        go_ret
        first | exact ⟨v3, o3, rfl, H3.out⟩ | exact ⟨v3, rfl, o3, H3.out⟩
end
end Go.Proofs.Ytghcfmkmndldoaa

/-
  sort.Search over any closure; count.
-/
namespace Go.Proofs.Ytghcfmkmndldoaa
open Go.RowKit Go.Sort Go.Lib

/-- so many places are ahead of the first at which p holds -/
def SrchP (n : Nat) (p : Nat → Bool) (c : Nat) : Prop := c ≤ n ∧ (∀ i, i < c → p i = false) ∧ ∀ i, c ≤ i → i < n → p i = true
/-- a set in memory -/
structure SetAt (w : World) (base g : Nat) (out : List Ec) : Prop where
  cell : ∃ v, Cells w g 65 [v] ∧ OwnE w base v out
  plain : PlainE out
  ge : base ≤ g
  len : out.length ≤ 20000000000
theorem SetAt.below {w w' : World} {base g : Nat} {out : List Ec} (h : SetAt w base g out) (hb : Below w.heap.size w w') : SetAt w' base g out := by
  obtain ⟨v, h1, h2⟩ := h.cell
  exact ⟨⟨v, h1.move (hb.block _ h1.lt), h2.below hb⟩, h.plain, h.ge, h.len⟩
theorem SetAt.lt {w : World} {base g : Nat} {out : List Ec} (h : SetAt w base g out) : g < w.heap.size := by
  obtain ⟨v, h1, _⟩ := h.cell
  exact h1.lt
section
set_option maxRecDepth 100000
set_option maxHeartbeats 1000000
theorem search_any (b1 b2 : Nat) (n : Nat) (p : Nat → Bool) (w : World) (hn : n ≤ 1099511627776)
    (hf : ∀ (W : World) (i : Nat), Below w.heap.size w W → i < n → Calls Try.prog 56 #[.int .i64 (i : Int), .pointer (some ⟨b1, 0, none⟩), .pointer (some ⟨b2, 0, none⟩)] W fun r w' => r = .returned (.bool (p i)) ∧ Below W.heap.size W w')
    (hmono : ∀ a b, a ≤ b → b < n → p a = true → p b = true) :
    Calls Try.prog 55 #[.int .i64 (n : Int), .func (.func 56) #[] #[.pointer (some ⟨b1, 0, none⟩), .pointer (some ⟨b2, 0, none⟩)]] w fun r w' => ∃ c : Nat, r = .returned (.int .i64 (c : Int)) ∧ SrchP n p c ∧ Below w.heap.size w w' := by
  have HF := Lib.hid hf
  have HM := Lib.hid hmono
  clear hf hmono
  have hn2 : n < 4611686018427387904 := by omega
  clear hn
  go_enter Try.func55, Try.ntmps55
  go_wp2_with fail
  go_loopw [5, 6] (fun iv jv wr => ∃ i j : Nat, iv = .int .i64 (i : Int) ∧ jv = .int .i64 (j : Int) ∧ i ≤ j ∧ j ≤ n ∧ Hid ((∀ t, t < i → p t = false) ∧ (∀ t, j ≤ t → t < n → p t = true) ∧ Below w.heap.size w wr)) (fun iv jv _ => (intOf jv - intOf iv).toNat)
  case atStart => exact ⟨0, n, rfl, rfl, Nat.zero_le _, Nat.le_refl _, fun t ht => absurd ht (Nat.not_lt_zero _), fun t h1 h2 => absurd h2 (by omega), Below.refl _ _⟩
  case round =>
    obtain ⟨i, j, rfl, rfl, hij, hjn, hst⟩ := hrel
    by_cases hlt : i < j
    · have HH0 := HF.out wr ((i + j) / 2) hst.out.2.2 (by omega)
      rw [show (((i + j) / 2 : Nat) : Int) = ((i : Int) + (j : Int)) / 2 by omega] at HH0
      cases hp : p ((i + j) / 2) with
      | false =>
        rw [hp] at HH0
        have HH := Lib.hid HH0
        have HP : Hid (p ((i + j) / 2) = false) := hp
        clear hp HH0
        go_wp2_with (go_at_call 56; refine HH.out.mono ?_; rintro e w3 ⟨rfl, h3⟩; have H3 : Hid (Below w.heap.size w w3) := hst.out.2.2.trans (h3.mono hst.out.2.2.size); clear h3)
        go_roundw
        case rel =>
          refine ⟨(i + j) / 2 + 1, j, by rw [show ((i : Int) + (j : Int)) / 2 + 1 = (((i + j) / 2 + 1 : Nat) : Int) by omega], rfl, by omega, hjn, fun t ht => ?_, hst.out.2.1, H3.out⟩
          cases hpt : p t with
          | false => rfl
          | true => have := HM.out t ((i + j) / 2) (by omega) (by omega) hpt; rw [HP.out] at this; cases this
        case measure => simp [intOf]; omega
      | true =>
        rw [hp] at HH0
        have HH := Lib.hid HH0
        have HP : Hid (p ((i + j) / 2) = true) := hp
        clear hp HH0
        go_wp2_with (go_at_call 56; refine HH.out.mono ?_; rintro e w3 ⟨rfl, h3⟩; have H3 : Hid (Below w.heap.size w w3) := hst.out.2.2.trans (h3.mono hst.out.2.2.size); clear h3)
        go_roundw
        case rel => exact ⟨i, (i + j) / 2, rfl, by rw [show ((i : Int) + (j : Int)) / 2 = (((i + j) / 2 : Nat) : Int) by omega], by omega, by omega, hst.out.1, (fun t h1 h2 => HM.out _ t h1 h2 HP.out), H3.out⟩
        case measure => simp [intOf]; omega
    · obtain rfl : i = j := by omega
      have HP : Hid (SrchP n p i ∧ Below w.heap.size w wr) := ⟨⟨hjn, hst.out.1, hst.out.2.1⟩, hst.out.2.2⟩
      clear hst
      go_wp2_with fail
      go_ret
      exact ⟨i, rfl, HP.out⟩
end
end Go.Proofs.Ytghcfmkmndldoaa

/-
  count: how many stretches are ahead of the first one that is not so. (Written by wip/tools/genel11.py.)
-/
namespace Go.Proofs.Ytghcfmkmndldoaa
open Go.RowKit Go.Sort Go.Lib

/-- up to, as a bool -/
def leB (a b : ByteArray) : Bool := !Op.bytesLess b.toList a.toList
theorem leB_iff {a b : ByteArray} : leB a b = true ↔ ke a b := by unfold leB ke; simp
theorem leB_form (a b : ByteArray) : (Op.bytesLess a.toList b.toList || a.toList == b.toList) = leB a b := by
  unfold leB
  rcases less_total a.toList b.toList with h | h | h
  · rw [h, less_asymm h]; rfl
  · rw [h, less_irrefl]; simp
  · have h2 : (a.toList == b.toList) = false := by
      rw [beq_eq_false_iff_ne]
      intro e
      rw [e, less_irrefl] at h
      cases h
    rw [h, less_asymm h, h2]; rfl
/-- so many of a list are ahead of the first that is not so -/
def CntP (l : List Ec) (q : Ec → Bool) (c : Nat) : Prop := c ≤ l.length ∧ ∀ i x, l[i]? = some x → (q x = true ↔ i < c)
def MonoE (l : List Ec) (q : Ec → Bool) : Prop := ∀ (i j : Nat) (x y : Ec), i ≤ j → l[i]? = some x → l[j]? = some y → q y = true → q x = true
def atB (l : List Ec) (q : Ec → Bool) (i : Nat) : Bool := match l[i]? with | some x => !q x | none => true
theorem cnt_of {l : List Ec} {q : Ec → Bool} {c : Nat} (h : SrchP l.length (atB l q) c) : CntP l q c := by
  obtain ⟨h1, h2, h3⟩ := h
  refine ⟨h1, fun i x hx => ?_⟩
  have hi := (List.getElem?_eq_some_iff.1 hx).1
  constructor
  · intro hq
    apply Decidable.byContradiction
    intro hn
    have := h3 i (by omega) hi
    unfold atB at this
    rw [hx] at this
    simp [hq] at this
  · intro hc
    have := h2 i hc
    unfold atB at this
    rw [hx] at this
    simpa using this
theorem mono_at {l : List Ec} {q : Ec → Bool} (h : MonoE l q) : ∀ a b, a ≤ b → b < l.length → atB l q a = true → atB l q b = true := fun a b hab hb ha => by
  obtain ⟨x, hx⟩ : ∃ x, l[a]? = some x := ⟨_, List.getElem?_eq_getElem (by omega)⟩
  obtain ⟨y, hy⟩ : ∃ y, l[b]? = some y := ⟨_, List.getElem?_eq_getElem hb⟩
  unfold atB at *
  rw [hx] at ha
  rw [hy]
  show (!q y) = true
  have ha2 : (!q x) = true := ha
  cases hq : q y with
  | false => rfl
  | true => rw [h a b x y hab hx hy hq] at ha2; cases ha2
section
set_option maxRecDepth 100000
set_option maxHeartbeats 4000000
theorem hasP_call (k : ByteArray) (kb : Nat) (x : Ec) (w : World) (hc : Cells w kb 9 [.string k]) : Calls Try.prog 44 #[eV x, .pointer (some ⟨kb, 0, none⟩)] w fun r w' => r = .returned (.bool (leB x.2.1 k)) ∧ Below w.heap.size w w' := by
  have hb : Below w.heap.size w (w.alloc (.cells #[.string x.1, .string x.2.1, .int .u64 (x.2.2 : Int)] 32)) := (Below.refl _ _).alloc (Nat.le_refl _) _
  have Hb := Lib.hid hb
  have hc1 := hc.alloc (.cells #[.string x.1, .string x.2.1, .int .u64 (x.2.2 : Int)] 32)
  have c0 := hc1.cell (i := 0) rfl
  have hlf := leB_form x.2.1 k
  unfold eV
  clear hb hc hc1
  go_enter Try.func44, Try.ntmps44
  go_wp2_with fail
  go_ret
  exact ⟨by first | rfl | rw [hlf] | simp [hlf], Hb.out⟩
theorem hasP_one (k : ByteArray) (kb sob sb g n c i : Nat) (A : Option Addr) (l : List Ec) (x : Ec) (w : World) (hn : n = l.length) (hso : w.cell? ⟨sob, 0, none⟩ = some (.func (.func 44) #[] #[.pointer (some ⟨kb, 0, none⟩)])) (hs : w.cell? ⟨sb, 0, none⟩ = some (.pointer (some ⟨g, 0, none⟩))) (hg : w.cell? ⟨g, 0, none⟩ = some (.slice A n c)) (hr : RE w w.heap.size A l) (hx : l[i]? = some x) (hc : Cells w kb 9 [.string k]) :
    Calls Try.prog 56 #[.int .i64 (i : Int), .pointer (some ⟨sob, 0, none⟩), .pointer (some ⟨sb, 0, none⟩)] w fun r w' => r = .returned (.bool (!(leB x.2.1 k))) ∧ Below w.heap.size w w' := by
  obtain ⟨b, o, rfl, _, x0, x1, x2⟩ := hr i x hx
  have hlt : (i : Int) < (n : Int) := by have := (List.getElem?_eq_some_iff.1 hx).1; omega
  have HC : Hid (∀ W, (W = w ∨ W = w.drew) → Calls Try.prog 44 #[eV x, .pointer (some ⟨kb, 0, none⟩)] W fun r w' => r = .returned (.bool (leB x.2.1 k)) ∧ Below w.heap.size w w') := fun W hW => by
    rcases hW with rfl | rfl
    · exact hasP_call k kb x _ hc
    · refine (hasP_call k kb x w.drew (hc.move rfl)).mono ?_
      rintro r w' ⟨rfl, hb⟩
      exact ⟨rfl, ((Below.refl _ _).drew).trans hb⟩
  have d0 : w.drew.cell? ⟨b, o + i * 3, none⟩ = some (.string x.1) := x0
  have d1 : w.drew.cell? ⟨b, o + i * 3 + 1, none⟩ = some (.string x.2.1) := x1
  have d2 : w.drew.cell? ⟨b, o + i * 3 + 2, none⟩ = some (.int .u64 (x.2.2 : Int)) := x2
  have d3 : w.drew.cell? ⟨sob, 0, none⟩ = some (.func (.func 44) #[] #[.pointer (some ⟨kb, 0, none⟩)]) := hso
  have d4 : w.drew.cell? ⟨sb, 0, none⟩ = some (.pointer (some ⟨g, 0, none⟩)) := hs
  have d5 : w.drew.cell? ⟨g, 0, none⟩ = some (.slice (some ⟨b, o, none⟩) n c) := hg
  generalize (leB x.2.1 k) = q at *
  unfold eV at HC
  clear hr hx hn hc
  go_enter Try.func56, Try.ntmps56
  go_upto_region 1 with fail
  go_region_with (go_at_call 44; refine (HC.out _ (by first | exact .inl (by with_reducible rfl) | exact .inr (by with_reducible rfl))).mono ?_; rintro e w3 ⟨rfl, h3⟩; have H3 := Lib.hid h3; clear h3)
  all_goals
    go_wp2_with fail
    go_ret
    exact ⟨rfl, H3.out⟩
theorem hasP_cnt (k : ByteArray) (kb g base : Nat) (l : List Ec) (w : World) (h : SetAt w base g l) (hm : MonoE l (fun x => leB x.2.1 k)) (hc : Cells w kb 9 [.string k]) :
    Calls Try.prog 34 #[.pointer (some ⟨g, 0, none⟩), .func (.func 44) #[] #[.pointer (some ⟨kb, 0, none⟩)]] w fun r w' => ∃ c : Nat, r = .returned (.int .i64 (c : Int)) ∧ CntP l (fun x => leB x.2.1 k) c ∧ Below w.heap.size w w' := by
  obtain ⟨v, hg, ho⟩ := h.cell
  obtain ⟨A, c, rfl, hlc, _, hr, _⟩ := ho.rd
  obtain ⟨n, hn⟩ : ∃ n, n = l.length := ⟨_, rfl⟩
  obtain ⟨W2, hW2⟩ : ∃ W2, W2 = (w.alloc (.cells #[.pointer (some ⟨g, 0, none⟩)] 33)).alloc (.cells #[.func (.func 44) #[] #[.pointer (some ⟨kb, 0, none⟩)]] 67) := ⟨_, rfl⟩
  have hb2 : Below w.heap.size w W2 := by rw [hW2]; exact ((Below.refl _ _).alloc (Nat.le_refl _) _).alloc (by simp) _
  have hs : Cells W2 w.heap.size 33 [.pointer (some ⟨g, 0, none⟩)] := by rw [hW2]; exact (Cells.new w _ _).alloc _
  have hso : Cells W2 (w.heap.size + 1) 67 [.func (.func 44) #[] #[.pointer (some ⟨kb, 0, none⟩)]] := by
    rw [hW2]
    have := Cells.new (w.alloc (.cells #[.pointer (some ⟨g, 0, none⟩)] 33)) #[.func (.func 44) #[] #[.pointer (some ⟨kb, 0, none⟩)]] 67
    rwa [show (w.alloc (.cells #[.pointer (some ⟨g, 0, none⟩)] 33)).heap.size = w.heap.size + 1 by simp] at this
  have hl9 := h.len
  have HS : Hid (Calls Try.prog 55 #[.int .i64 (n : Int), .func (.func 56) #[] #[.pointer (some ⟨w.heap.size + 1, 0, none⟩), .pointer (some ⟨w.heap.size, 0, none⟩)]] W2 fun r w' => ∃ c : Nat, r = .returned (.int .i64 (c : Int)) ∧ SrchP n (atB l (fun x => leB x.2.1 k)) c ∧ Below W2.heap.size W2 w') := by
    refine search_any (w.heap.size + 1) w.heap.size n _ W2 (by omega) (fun W i hW hi => ?_) (by rw [hn]; exact mono_at hm)
    obtain ⟨x, hx⟩ : ∃ x, l[i]? = some x := ⟨_, List.getElem?_eq_getElem (by omega)⟩
    have hbW : Below w.heap.size w W := hb2.trans (hW.mono hb2.size)
    have := hasP_one k kb (w.heap.size + 1) w.heap.size g n c i A l x W hn ((hso.move (hW.block _ hso.lt)).cell (i := 0) rfl) ((hs.move (hW.block _ hs.lt)).cell (i := 0) rfl) (by rw [hn]; exact (hg.move (hbW.block _ hg.lt)).cell (i := 0) rfl) (hr.now hbW) hx (hc.move (hbW.block _ hc.lt))
    have e : atB l (fun x => leB x.2.1 k) i = !(leB x.2.1 k) := by unfold atB; rw [hx]
    rw [e]
    exact this
  have g0 : W2.cell? ⟨g, 0, none⟩ = some (.slice A n c) := by rw [hn]; exact (hg.move (hb2.block _ hg.lt)).cell (i := 0) rfl
  have s0 := hs.cell (i := 0) rfl
  have H2 : Hid (Below w.heap.size w W2 ∧ (∀ cc, SrchP n (atB l (fun x => leB x.2.1 k)) cc → CntP l (fun x => leB x.2.1 k) cc)) := ⟨hb2, fun cc q => cnt_of (by rw [← hn]; exact q)⟩
  generalize (atB l (fun x => leB x.2.1 k)) = pp at HS H2
  clear h hm hc hg ho hlc hr hn hb2 hs hso hl9
  rw [hW2] at g0 s0 HS
  go_enter Try.func34, Try.ntmps34
  go_wp2_with fail
  rw [← hW2] at HS ⊢
  refine HS.out.mono ?_
  rintro r w3 ⟨cc, rfl, hp, hb3⟩
  have H3 : Hid (CntP l (fun x => leB x.2.1 k) cc ∧ Below w.heap.size w w3) := ⟨H2.out.2 cc hp, H2.out.1.trans (hb3.mono H2.out.1.size)⟩
  clear hp hb3 HS hW2 g0 s0
  go_wp2_with fail
  go_ret
  exact ⟨cc, rfl, H3.out⟩
theorem addA_call (k : Ec) (kb : Nat) (x : Ec) (w : World) (hc : Cells w kb 32 (cellE k)) : Calls Try.prog 35 #[eV x, .pointer (some ⟨kb, 0, none⟩)] w fun r w' => r = .returned (.bool (Op.bytesLess x.2.1.toList k.1.toList)) ∧ Below w.heap.size w w' := by
  have hb : Below w.heap.size w (w.alloc (.cells #[.string x.1, .string x.2.1, .int .u64 (x.2.2 : Int)] 32)) := (Below.refl _ _).alloc (Nat.le_refl _) _
  have Hb := Lib.hid hb
  have hc1 := hc.alloc (.cells #[.string x.1, .string x.2.1, .int .u64 (x.2.2 : Int)] 32)
  have c0 := hc1.cell (i := 0) rfl
  have c1 := hc1.cell (i := 1) rfl
  have c2 := hc1.cell (i := 2) rfl
  have hlf := True.intro
  unfold eV
  clear hb hc hc1
  go_enter Try.func35, Try.ntmps35
  go_wp2_with fail
  go_ret
  exact ⟨by first | rfl | rw [hlf] | simp [hlf], Hb.out⟩
theorem addA_one (k : Ec) (kb sob sb g n c i : Nat) (A : Option Addr) (l : List Ec) (x : Ec) (w : World) (hn : n = l.length) (hso : w.cell? ⟨sob, 0, none⟩ = some (.func (.func 35) #[] #[.pointer (some ⟨kb, 0, none⟩)])) (hs : w.cell? ⟨sb, 0, none⟩ = some (.pointer (some ⟨g, 0, none⟩))) (hg : w.cell? ⟨g, 0, none⟩ = some (.slice A n c)) (hr : RE w w.heap.size A l) (hx : l[i]? = some x) (hc : Cells w kb 32 (cellE k)) :
    Calls Try.prog 56 #[.int .i64 (i : Int), .pointer (some ⟨sob, 0, none⟩), .pointer (some ⟨sb, 0, none⟩)] w fun r w' => r = .returned (.bool (!(Op.bytesLess x.2.1.toList k.1.toList))) ∧ Below w.heap.size w w' := by
  obtain ⟨b, o, rfl, _, x0, x1, x2⟩ := hr i x hx
  have hlt : (i : Int) < (n : Int) := by have := (List.getElem?_eq_some_iff.1 hx).1; omega
  have HC : Hid (∀ W, (W = w ∨ W = w.drew) → Calls Try.prog 35 #[eV x, .pointer (some ⟨kb, 0, none⟩)] W fun r w' => r = .returned (.bool (Op.bytesLess x.2.1.toList k.1.toList)) ∧ Below w.heap.size w w') := fun W hW => by
    rcases hW with rfl | rfl
    · exact addA_call k kb x _ hc
    · refine (addA_call k kb x w.drew (hc.move rfl)).mono ?_
      rintro r w' ⟨rfl, hb⟩
      exact ⟨rfl, ((Below.refl _ _).drew).trans hb⟩
  have d0 : w.drew.cell? ⟨b, o + i * 3, none⟩ = some (.string x.1) := x0
  have d1 : w.drew.cell? ⟨b, o + i * 3 + 1, none⟩ = some (.string x.2.1) := x1
  have d2 : w.drew.cell? ⟨b, o + i * 3 + 2, none⟩ = some (.int .u64 (x.2.2 : Int)) := x2
  have d3 : w.drew.cell? ⟨sob, 0, none⟩ = some (.func (.func 35) #[] #[.pointer (some ⟨kb, 0, none⟩)]) := hso
  have d4 : w.drew.cell? ⟨sb, 0, none⟩ = some (.pointer (some ⟨g, 0, none⟩)) := hs
  have d5 : w.drew.cell? ⟨g, 0, none⟩ = some (.slice (some ⟨b, o, none⟩) n c) := hg
  generalize (Op.bytesLess x.2.1.toList k.1.toList) = q at *
  unfold eV at HC
  clear hr hx hn hc
  go_enter Try.func56, Try.ntmps56
  go_upto_region 1 with fail
  go_region_with (go_at_call 35; refine (HC.out _ (by first | exact .inl (by with_reducible rfl) | exact .inr (by with_reducible rfl))).mono ?_; rintro e w3 ⟨rfl, h3⟩; have H3 := Lib.hid h3; clear h3)
  all_goals
    go_wp2_with fail
    go_ret
    exact ⟨rfl, H3.out⟩
theorem addA_cnt (k : Ec) (kb g base : Nat) (l : List Ec) (w : World) (h : SetAt w base g l) (hm : MonoE l (fun x => Op.bytesLess x.2.1.toList k.1.toList)) (hc : Cells w kb 32 (cellE k)) :
    Calls Try.prog 34 #[.pointer (some ⟨g, 0, none⟩), .func (.func 35) #[] #[.pointer (some ⟨kb, 0, none⟩)]] w fun r w' => ∃ c : Nat, r = .returned (.int .i64 (c : Int)) ∧ CntP l (fun x => Op.bytesLess x.2.1.toList k.1.toList) c ∧ Below w.heap.size w w' := by
  obtain ⟨v, hg, ho⟩ := h.cell
  obtain ⟨A, c, rfl, hlc, _, hr, _⟩ := ho.rd
  obtain ⟨n, hn⟩ : ∃ n, n = l.length := ⟨_, rfl⟩
  obtain ⟨W2, hW2⟩ : ∃ W2, W2 = (w.alloc (.cells #[.pointer (some ⟨g, 0, none⟩)] 33)).alloc (.cells #[.func (.func 35) #[] #[.pointer (some ⟨kb, 0, none⟩)]] 67) := ⟨_, rfl⟩
  have hb2 : Below w.heap.size w W2 := by rw [hW2]; exact ((Below.refl _ _).alloc (Nat.le_refl _) _).alloc (by simp) _
  have hs : Cells W2 w.heap.size 33 [.pointer (some ⟨g, 0, none⟩)] := by rw [hW2]; exact (Cells.new w _ _).alloc _
  have hso : Cells W2 (w.heap.size + 1) 67 [.func (.func 35) #[] #[.pointer (some ⟨kb, 0, none⟩)]] := by
    rw [hW2]
    have := Cells.new (w.alloc (.cells #[.pointer (some ⟨g, 0, none⟩)] 33)) #[.func (.func 35) #[] #[.pointer (some ⟨kb, 0, none⟩)]] 67
    rwa [show (w.alloc (.cells #[.pointer (some ⟨g, 0, none⟩)] 33)).heap.size = w.heap.size + 1 by simp] at this
  have hl9 := h.len
  have HS : Hid (Calls Try.prog 55 #[.int .i64 (n : Int), .func (.func 56) #[] #[.pointer (some ⟨w.heap.size + 1, 0, none⟩), .pointer (some ⟨w.heap.size, 0, none⟩)]] W2 fun r w' => ∃ c : Nat, r = .returned (.int .i64 (c : Int)) ∧ SrchP n (atB l (fun x => Op.bytesLess x.2.1.toList k.1.toList)) c ∧ Below W2.heap.size W2 w') := by
    refine search_any (w.heap.size + 1) w.heap.size n _ W2 (by omega) (fun W i hW hi => ?_) (by rw [hn]; exact mono_at hm)
    obtain ⟨x, hx⟩ : ∃ x, l[i]? = some x := ⟨_, List.getElem?_eq_getElem (by omega)⟩
    have hbW : Below w.heap.size w W := hb2.trans (hW.mono hb2.size)
    have := addA_one k kb (w.heap.size + 1) w.heap.size g n c i A l x W hn ((hso.move (hW.block _ hso.lt)).cell (i := 0) rfl) ((hs.move (hW.block _ hs.lt)).cell (i := 0) rfl) (by rw [hn]; exact (hg.move (hbW.block _ hg.lt)).cell (i := 0) rfl) (hr.now hbW) hx (hc.move (hbW.block _ hc.lt))
    have e : atB l (fun x => Op.bytesLess x.2.1.toList k.1.toList) i = !(Op.bytesLess x.2.1.toList k.1.toList) := by unfold atB; rw [hx]
    rw [e]
    exact this
  have g0 : W2.cell? ⟨g, 0, none⟩ = some (.slice A n c) := by rw [hn]; exact (hg.move (hb2.block _ hg.lt)).cell (i := 0) rfl
  have s0 := hs.cell (i := 0) rfl
  have H2 : Hid (Below w.heap.size w W2 ∧ (∀ cc, SrchP n (atB l (fun x => Op.bytesLess x.2.1.toList k.1.toList)) cc → CntP l (fun x => Op.bytesLess x.2.1.toList k.1.toList) cc)) := ⟨hb2, fun cc q => cnt_of (by rw [← hn]; exact q)⟩
  generalize (atB l (fun x => Op.bytesLess x.2.1.toList k.1.toList)) = pp at HS H2
  clear h hm hc hg ho hlc hr hn hb2 hs hso hl9
  rw [hW2] at g0 s0 HS
  go_enter Try.func34, Try.ntmps34
  go_wp2_with fail
  rw [← hW2] at HS ⊢
  refine HS.out.mono ?_
  rintro r w3 ⟨cc, rfl, hp, hb3⟩
  have H3 : Hid (CntP l (fun x => Op.bytesLess x.2.1.toList k.1.toList) cc ∧ Below w.heap.size w w3) := ⟨H2.out.2 cc hp, H2.out.1.trans (hb3.mono H2.out.1.size)⟩
  clear hp hb3 HS hW2 g0 s0
  go_wp2_with fail
  go_ret
  exact ⟨cc, rfl, H3.out⟩
theorem addB_call (k : Ec) (kb : Nat) (x : Ec) (w : World) (hc : Cells w kb 32 (cellE k)) : Calls Try.prog 36 #[eV x, .pointer (some ⟨kb, 0, none⟩)] w fun r w' => r = .returned (.bool (leB x.1 k.2.1)) ∧ Below w.heap.size w w' := by
  have hb : Below w.heap.size w (w.alloc (.cells #[.string x.1, .string x.2.1, .int .u64 (x.2.2 : Int)] 32)) := (Below.refl _ _).alloc (Nat.le_refl _) _
  have Hb := Lib.hid hb
  have hc1 := hc.alloc (.cells #[.string x.1, .string x.2.1, .int .u64 (x.2.2 : Int)] 32)
  have c0 := hc1.cell (i := 0) rfl
  have c1 := hc1.cell (i := 1) rfl
  have c2 := hc1.cell (i := 2) rfl
  have hlf := leB_form x.1 k.2.1
  unfold eV
  clear hb hc hc1
  go_enter Try.func36, Try.ntmps36
  go_wp2_with fail
  go_ret
  exact ⟨by first | rfl | rw [hlf] | simp [hlf], Hb.out⟩
theorem addB_one (k : Ec) (kb sob sb g n c i : Nat) (A : Option Addr) (l : List Ec) (x : Ec) (w : World) (hn : n = l.length) (hso : w.cell? ⟨sob, 0, none⟩ = some (.func (.func 36) #[] #[.pointer (some ⟨kb, 0, none⟩)])) (hs : w.cell? ⟨sb, 0, none⟩ = some (.pointer (some ⟨g, 0, none⟩))) (hg : w.cell? ⟨g, 0, none⟩ = some (.slice A n c)) (hr : RE w w.heap.size A l) (hx : l[i]? = some x) (hc : Cells w kb 32 (cellE k)) :
    Calls Try.prog 56 #[.int .i64 (i : Int), .pointer (some ⟨sob, 0, none⟩), .pointer (some ⟨sb, 0, none⟩)] w fun r w' => r = .returned (.bool (!(leB x.1 k.2.1))) ∧ Below w.heap.size w w' := by
  obtain ⟨b, o, rfl, _, x0, x1, x2⟩ := hr i x hx
  have hlt : (i : Int) < (n : Int) := by have := (List.getElem?_eq_some_iff.1 hx).1; omega
  have HC : Hid (∀ W, (W = w ∨ W = w.drew) → Calls Try.prog 36 #[eV x, .pointer (some ⟨kb, 0, none⟩)] W fun r w' => r = .returned (.bool (leB x.1 k.2.1)) ∧ Below w.heap.size w w') := fun W hW => by
    rcases hW with rfl | rfl
    · exact addB_call k kb x _ hc
    · refine (addB_call k kb x w.drew (hc.move rfl)).mono ?_
      rintro r w' ⟨rfl, hb⟩
      exact ⟨rfl, ((Below.refl _ _).drew).trans hb⟩
  have d0 : w.drew.cell? ⟨b, o + i * 3, none⟩ = some (.string x.1) := x0
  have d1 : w.drew.cell? ⟨b, o + i * 3 + 1, none⟩ = some (.string x.2.1) := x1
  have d2 : w.drew.cell? ⟨b, o + i * 3 + 2, none⟩ = some (.int .u64 (x.2.2 : Int)) := x2
  have d3 : w.drew.cell? ⟨sob, 0, none⟩ = some (.func (.func 36) #[] #[.pointer (some ⟨kb, 0, none⟩)]) := hso
  have d4 : w.drew.cell? ⟨sb, 0, none⟩ = some (.pointer (some ⟨g, 0, none⟩)) := hs
  have d5 : w.drew.cell? ⟨g, 0, none⟩ = some (.slice (some ⟨b, o, none⟩) n c) := hg
  generalize (leB x.1 k.2.1) = q at *
  unfold eV at HC
  clear hr hx hn hc
  go_enter Try.func56, Try.ntmps56
  go_upto_region 1 with fail
  go_region_with (go_at_call 36; refine (HC.out _ (by first | exact .inl (by with_reducible rfl) | exact .inr (by with_reducible rfl))).mono ?_; rintro e w3 ⟨rfl, h3⟩; have H3 := Lib.hid h3; clear h3)
  all_goals
    go_wp2_with fail
    go_ret
    exact ⟨rfl, H3.out⟩
theorem addB_cnt (k : Ec) (kb g base : Nat) (l : List Ec) (w : World) (h : SetAt w base g l) (hm : MonoE l (fun x => leB x.1 k.2.1)) (hc : Cells w kb 32 (cellE k)) :
    Calls Try.prog 34 #[.pointer (some ⟨g, 0, none⟩), .func (.func 36) #[] #[.pointer (some ⟨kb, 0, none⟩)]] w fun r w' => ∃ c : Nat, r = .returned (.int .i64 (c : Int)) ∧ CntP l (fun x => leB x.1 k.2.1) c ∧ Below w.heap.size w w' := by
  obtain ⟨v, hg, ho⟩ := h.cell
  obtain ⟨A, c, rfl, hlc, _, hr, _⟩ := ho.rd
  obtain ⟨n, hn⟩ : ∃ n, n = l.length := ⟨_, rfl⟩
  obtain ⟨W2, hW2⟩ : ∃ W2, W2 = (w.alloc (.cells #[.pointer (some ⟨g, 0, none⟩)] 33)).alloc (.cells #[.func (.func 36) #[] #[.pointer (some ⟨kb, 0, none⟩)]] 67) := ⟨_, rfl⟩
  have hb2 : Below w.heap.size w W2 := by rw [hW2]; exact ((Below.refl _ _).alloc (Nat.le_refl _) _).alloc (by simp) _
  have hs : Cells W2 w.heap.size 33 [.pointer (some ⟨g, 0, none⟩)] := by rw [hW2]; exact (Cells.new w _ _).alloc _
  have hso : Cells W2 (w.heap.size + 1) 67 [.func (.func 36) #[] #[.pointer (some ⟨kb, 0, none⟩)]] := by
    rw [hW2]
    have := Cells.new (w.alloc (.cells #[.pointer (some ⟨g, 0, none⟩)] 33)) #[.func (.func 36) #[] #[.pointer (some ⟨kb, 0, none⟩)]] 67
    rwa [show (w.alloc (.cells #[.pointer (some ⟨g, 0, none⟩)] 33)).heap.size = w.heap.size + 1 by simp] at this
  have hl9 := h.len
  have HS : Hid (Calls Try.prog 55 #[.int .i64 (n : Int), .func (.func 56) #[] #[.pointer (some ⟨w.heap.size + 1, 0, none⟩), .pointer (some ⟨w.heap.size, 0, none⟩)]] W2 fun r w' => ∃ c : Nat, r = .returned (.int .i64 (c : Int)) ∧ SrchP n (atB l (fun x => leB x.1 k.2.1)) c ∧ Below W2.heap.size W2 w') := by
    refine search_any (w.heap.size + 1) w.heap.size n _ W2 (by omega) (fun W i hW hi => ?_) (by rw [hn]; exact mono_at hm)
    obtain ⟨x, hx⟩ : ∃ x, l[i]? = some x := ⟨_, List.getElem?_eq_getElem (by omega)⟩
    have hbW : Below w.heap.size w W := hb2.trans (hW.mono hb2.size)
    have := addB_one k kb (w.heap.size + 1) w.heap.size g n c i A l x W hn ((hso.move (hW.block _ hso.lt)).cell (i := 0) rfl) ((hs.move (hW.block _ hs.lt)).cell (i := 0) rfl) (by rw [hn]; exact (hg.move (hbW.block _ hg.lt)).cell (i := 0) rfl) (hr.now hbW) hx (hc.move (hbW.block _ hc.lt))
    have e : atB l (fun x => leB x.1 k.2.1) i = !(leB x.1 k.2.1) := by unfold atB; rw [hx]
    rw [e]
    exact this
  have g0 : W2.cell? ⟨g, 0, none⟩ = some (.slice A n c) := by rw [hn]; exact (hg.move (hb2.block _ hg.lt)).cell (i := 0) rfl
  have s0 := hs.cell (i := 0) rfl
  have H2 : Hid (Below w.heap.size w W2 ∧ (∀ cc, SrchP n (atB l (fun x => leB x.1 k.2.1)) cc → CntP l (fun x => leB x.1 k.2.1) cc)) := ⟨hb2, fun cc q => cnt_of (by rw [← hn]; exact q)⟩
  generalize (atB l (fun x => leB x.1 k.2.1)) = pp at HS H2
  clear h hm hc hg ho hlc hr hn hb2 hs hso hl9
  rw [hW2] at g0 s0 HS
  go_enter Try.func34, Try.ntmps34
  go_wp2_with fail
  rw [← hW2] at HS ⊢
  refine HS.out.mono ?_
  rintro r w3 ⟨cc, rfl, hp, hb3⟩
  have H3 : Hid (CntP l (fun x => leB x.1 k.2.1) cc ∧ Below w.heap.size w w3) := ⟨H2.out.2 cc hp, H2.out.1.trans (hb3.mono H2.out.1.size)⟩
  clear hp hb3 HS hW2 g0 s0
  go_wp2_with fail
  go_ret
  exact ⟨cc, rfl, H3.out⟩
end
end Go.Proofs.Ytghcfmkmndldoaa

/-
  Has, List, New.
-/
namespace Go.Proofs.Ytghcfmkmndldoaa
open Go.RowKit Go.Sort Go.Lib

theorem drop_cnt {k : ByteArray} : ∀ (l : List Ec) (c : Nat), CntP l (fun x => leB x.2.1 k) c → dropE k l = l.drop c
  | [], c, _ => by simp [dropE]
  | a :: l, 0, h => by
    have h1 := (h.2 0 a rfl)
    have h2 : ¬ leB a.2.1 k = true := fun q => by have := h1.1 q; omega
    rw [dropE, if_pos ?_]
    · rfl
    · have h3 := fun q => h2 (leB_iff.2 q)
      rcases ke_or a.2.1 k with q | q
      · exact absurd q h3
      · exact q
  | a :: l, c + 1, h => by
    have h1 := (h.2 0 a rfl).2 (by omega)
    have h2 : ¬ Op.bytesLess k.toList a.2.1.toList = true := ke_iff.1 (leB_iff.1 h1)
    rw [dropE, if_neg h2, List.drop_succ_cons]
    exact drop_cnt l c ⟨by have := h.1; simp at this; omega, fun i x hx => by rw [h.2 (i + 1) x (by simpa using hx)]; omega⟩
theorem top_cnt {l : List Ec} {k : ByteArray} {c : Nat} (hp : PlainE l) (h : CntP l (fun x => leB x.2.1 k) c) :
    (∀ x, l[c]? = some x → topE l k = if leB x.1 k = true then x.2.2 + 1 else 0) ∧ (l[c]? = none → topE l k = 0) := by
  have hd := drop_cnt l c h
  have ht := drop_top (l := l) (ke_refl k)
  have h9 : (l.drop c)[0]? = l[c]? := by rw [List.getElem?_drop, Nat.add_zero]
  cases hdd : l.drop c with
  | nil =>
    rw [hd, hdd] at ht
    rw [hdd] at h9
    refine ⟨fun x hx => ?_, fun _ => by rw [← ht]; rfl⟩
    rw [hx] at h9
    cases h9
  | cons y r =>
    rw [hd, hdd] at ht
    rw [hdd] at h9
    refine ⟨fun x hx => ?_, fun hx => by rw [hx] at h9; cases h9⟩
    rw [hx] at h9
    have e : y = x := by simpa using h9
    subst e
    have hpr : PlainE (y :: r) := hdd ▸ hp.sub (List.drop_sublist _ _)
    have hhi := drop_head (hd.trans hdd)
    rw [← ht]
    by_cases q : leB y.1 k = true
    · rw [if_pos q, top_in hpr (covE_iff.2 ⟨leB_iff.1 q, hhi⟩)]
    · rw [if_neg q, top_low hpr]
      rcases ke_or y.1 k with q2 | q2
      · exact absurd (leB_iff.2 q2) q
      · exact q2
theorem plain_rise {l : List Ec} (h : PlainE l) {i j : Nat} {x y : Ec} (hi : l[i]? = some x) (hj : l[j]? = some y) (hij : i < j) : ke x.2.1 y.1 := by
  obtain ⟨h1, h2⟩ := List.getElem?_eq_some_iff.1 hi
  obtain ⟨h3, h4⟩ := List.getElem?_eq_some_iff.1 hj
  have := List.pairwise_iff_getElem.1 h.sep i j h1 h3 hij
  rw [h2, h4] at this
  exact this.1
theorem mono_hi {l : List Ec} (h : PlainE l) (k : ByteArray) : MonoE l (fun x => leB x.2.1 k) := fun i j x y hij hx hy hq => by
  rcases Nat.lt_or_ge i j with q | q
  · have h1 := plain_rise h hx hy q
    have h2 := h.ok y (List.mem_of_getElem? hy)
    exact leB_iff.2 (ke_trans h1 (ke_trans h2.ke (leB_iff.1 hq)))
  · obtain rfl : i = j := by omega
    rw [hx] at hy
    cases hy
    exact hq
def okAll (es : List Ec) : Bool := es.all fun e => Op.bytesLess e.1.toList e.2.1.toList
theorem okAll_iff {es : List Ec} : okAll es = true ↔ ∀ e ∈ es, kl e.1 e.2.1 := by unfold okAll kl; simp
section
set_option maxRecDepth 100000
set_option maxHeartbeats 8000000
theorem has_any (g base : Nat) (l : List Ec) (k : ByteArray) (s : Nat) (w : World) (h : SetAt w base g l) :
    Calls Try.prog 20 #[.pointer (some ⟨g, 0, none⟩), .string k, .int .u64 (s : Int)] w fun r w' => r = .returned (.bool (decide (s < topE l k))) ∧ Below w.heap.size w w' := by
  have hb1 : Below w.heap.size w (w.alloc (.cells #[.string k] 9)) := (Below.refl _ _).alloc (Nat.le_refl _) _
  have hk := Cells.new w #[.string k] 9
  have HC := Lib.hid (hasP_cnt k w.heap.size g base l _ (h.below hb1) (mono_hi h.plain k) hk)
  have H0 : Hid (Below w.heap.size w (w.alloc (.cells #[.string k] 9)) ∧ SetAt (w.alloc (.cells #[.string k] 9)) base g l ∧ Cells (w.alloc (.cells #[.string k] 9)) w.heap.size 9 [.string k]) := ⟨hb1, h.below hb1, hk⟩
  have Hd : Hid (∀ c, CntP l (fun x => leB x.2.1 k) c → (∀ x, l[c]? = some x → topE l k = if leB x.1 k = true then x.2.2 + 1 else 0) ∧ (l[c]? = none → topE l k = 0)) := fun c hc => top_cnt h.plain hc
  generalize topE l k = t at *
  obtain ⟨dv, hdv⟩ : ∃ dv, dv = decide (s < t) := ⟨_, rfl⟩
  rw [← hdv]
  have Hdv := Lib.hid hdv
  clear hb1 hk h hdv
  go_enter Try.func20, Try.ntmps20
  go_wp2_with fail
  refine HC.out.mono ?_
  rintro r w2 ⟨c, rfl, hcp, hb2⟩
  obtain ⟨v, hg, ho⟩ := (H0.out.2.1.below hb2).cell
  obtain ⟨A, cc, rfl, hlc, _, hr, _⟩ := ho.rd
  have k0 := (H0.out.2.2.move (hb2.block _ H0.out.2.2.lt)).cell (i := 0) rfl
  have g0 := hg.cell (i := 0) rfl
  have Hb : Hid (Below w.heap.size w w2) := H0.out.1.trans (hb2.mono H0.out.1.size)
  have Ht := Lib.hid (Hd.out c hcp)
  have hcl : c ≤ l.length := hcp.1
  obtain ⟨n, hn⟩ : ∃ n, n = l.length := ⟨_, rfl⟩
  rw [← hn] at g0 hcl
  have hn9 : (n : Int) ≤ 1099511627776 := by have := H0.out.2.1.len; omega
  rcases Nat.lt_or_ge c n with hcn | hcn
  · obtain ⟨x, hx⟩ : ∃ x, l[c]? = some x := ⟨_, List.getElem?_eq_getElem (by omega)⟩
    obtain ⟨b, o, rfl, _, x0, x1, x2⟩ := hr c x hx
    have ht := Ht.out.1 x hx
    have hc1 : (c : Int) < (n : Int) := by omega
    clear HC H0 Hd hcp hb2 hg ho hlc hr hcl hn hcn Ht hx
    by_cases hq : leB x.1 k = true
    · rw [if_pos hq] at ht
      by_cases hs : s ≤ x.2.2
      · have hd : decide (s < t) = true := by rw [ht]; exact decide_eq_true (by omega)
        obtain rfl : dv = true := by rw [Hdv.out]; exact hd
        have hs' : (x.2.2 : Int) ≥ (s : Int) := by omega
        rcases less_total x.1.toList k.toList with q | q | q
        · clear ht hd hq hs
          go_upto_region 2 with fail
          go_quiet (fail)
          go_wp2_with fail
          go_ret
          exact ⟨rfl, below_dr Hb.out nq⟩
        · have q1 : Op.bytesLess x.1.toList k.toList = false := by rw [q]; exact less_irrefl _
          have q2 : (x.1.toList == k.toList) = true := by rw [q]; simp
          clear ht hd hq hs q
          go_upto_region 2 with fail
          go_quiet (fail)
          go_wp2_with fail
          go_ret
          exact ⟨rfl, below_dr Hb.out nq⟩
        · rw [leB, q] at hq; cases hq
      · have hd : decide (s < t) = false := by rw [ht]; exact decide_eq_false (by omega)
        obtain rfl : dv = false := by rw [Hdv.out]; exact hd
        have hs2 : decide (s ≤ x.2.2) = false := decide_eq_false hs
        rcases less_total x.1.toList k.toList with q | q | q
        · clear ht hd hq hs
          go_upto_region 2 with fail
          go_quiet (fail)
          go_wp2_with fail
          go_ret
          exact ⟨rfl, below_dr Hb.out nq⟩
        · have q1 : Op.bytesLess x.1.toList k.toList = false := by rw [q]; exact less_irrefl _
          have q2 : (x.1.toList == k.toList) = true := by rw [q]; simp
          clear ht hd hq hs q
          go_upto_region 2 with fail
          go_quiet (fail)
          go_wp2_with fail
          go_ret
          exact ⟨rfl, below_dr Hb.out nq⟩
        · rw [leB, q] at hq; cases hq
    · rw [if_neg hq] at ht
      have hd : decide (s < t) = false := by rw [ht]; rfl
      obtain rfl : dv = false := by rw [Hdv.out]; exact hd
      have q := leB_form x.1 k
      rw [Bool.not_eq_true] at hq
      rw [hq, Bool.or_eq_false_iff] at q
      obtain ⟨q1, q2⟩ := q
      clear ht hd hq
      go_upto_region 2 with fail
      go_quiet (fail)
      go_wp2_with fail
      go_ret
      exact ⟨rfl, below_dr Hb.out nq⟩
  · have hc1 : decide (c < n) = false := decide_eq_false (by omega)
    have ht := Ht.out.2 (List.getElem?_eq_none (by omega))
    have hd : decide (s < t) = false := by rw [ht]; rfl
    obtain rfl : dv = false := by rw [Hdv.out]; exact hd
    clear HC H0 Hd hcp hb2 hg ho hlc hr hcl hn hcn Ht ht hd
    go_upto_region 2 with fail
    go_quiet (fail)
    go_wp2_with fail
    go_ret
    exact ⟨rfl, below_dr Hb.out nq⟩
theorem list_any (g base : Nat) (l : List Ec) (w : World) (h : SetAt w base g l) :
    Calls Try.prog 17 #[.pointer (some ⟨g, 0, none⟩)] w fun r w' => ∃ v, r = .returned v ∧ OwnE w' w.heap.size v l ∧ Below w.heap.size w w' := by
  obtain ⟨v, hg, ho⟩ := h.cell
  obtain ⟨A, c, rfl, _, _, hr, _⟩ := ho.rd
  have g0 := hg.cell (i := 0) rfl
  have HC := Lib.hid (cloneE_any A c l w hr (by have := h.len; omega))
  clear h hg ho hr
  go_enter Try.func17, Try.ntmps17
  go_wp2_with fail
  refine HC.out.mono ?_
  rintro r w1 ⟨v, rfl, h1⟩
  have H1 := Lib.hid h1
  clear h1 HC
  go_wp2_with fail
  go_ret
  exact ⟨v, rfl, H1.out⟩
theorem new_any (A : Option Addr) (c : Nat) (es : List Ec) (w : World) (hr : RE w w.heap.size A es) (hc : es.length ≤ c) (hl : es.length ≤ 100000) :
    Calls Try.prog 10 #[.slice A es.length c] w fun r w' => Below w.heap.size w w' ∧ ((okAll es = true ∧ ∃ g out, r = .returned (.tuple #[.pointer (some ⟨g, 0, none⟩), .int .i64 0]) ∧ SetAt w' w.heap.size g out ∧ (∀ j, topE out j = topE es j) ∧ out.length + es.length ≤ 2 * (es.length * es.length)) ∨ (okAll es = false ∧ r = .returned (.tuple #[.pointer none, .int .i64 1]))) := by
  have Hr := Lib.hid hr
  have HM : Hid (okAll es = true → ∀ W, Below w.heap.size w W → Calls Try.prog 33 #[.slice A es.length c] W fun r w' => ∃ v out, r = .returned v ∧ MadeP W w' es v out) := fun hq W hW => made_any 100000 A c es W hl (Nat.le_refl _) hc (okAll_iff.1 hq) (hr.now hW)
  have hl2 : 2 * (es.length * es.length) ≤ 20000000000 := by
    have := Nat.mul_le_mul hl hl
    omega
  have Hl2 := Lib.hid hl2
  have Hlen : Hid (∀ k : Nat, k < es.length → ∃ u, es[k]? = some u) := fun k hk => ⟨_, List.getElem?_eq_getElem hk⟩
  obtain ⟨n, hn⟩ : ∃ n, n = es.length := ⟨_, rfl⟩
  rw [← hn] at HM Hlen hl ⊢
  have hl' : (n : Int) ≤ 100000 := by omega
  have Hn := Lib.hid hn
  clear hr hc hl hl2 hn
  go_enter Try.func10, Try.ntmps10
  go_wp2_with fail
  go_loopw [9] (fun iv wr => ∃ i : Nat, iv = .int .i64 (i : Int) ∧ i ≤ n ∧ Hid ((∀ j e, j < i → es[j]? = some e → kl e.1 e.2.1) ∧ Below w.heap.size w wr)) (fun iv _ => n - (intOf iv).toNat)
  case atStart => exact ⟨0, rfl, Nat.zero_le _, fun j e hj => absurd hj (Nat.not_lt_zero _), Below.refl _ _⟩
  case round =>
    obtain ⟨i, rfl, hi, hst⟩ := hrel
    by_cases hlt : i < n
    · obtain ⟨e, he⟩ := Hlen.out i hlt
      obtain ⟨b, o, rfl, hblt, x0, x1, x2⟩ := (Hr.out.below hst.out.2) i e he
      have hlt' : (i : Int) < (n : Int) := by omega
      have He := Lib.hid he
      have HCk := Lib.hid (fun W => check_any e W)
      have Hz := Lib.hid (chk_zero (e := e))
      have Ha : Hid (Below w.heap.size w (wr.alloc (.cells #[.string e.1, .string e.2.1, .int .u64 (e.2.2 : Int)] 32))) := hst.out.2.alloc hst.out.2.size _
      unfold eV at HCk
      have hce : chkE e = 0 ∨ chkE e = 1 := by unfold chkE; split <;> simp
      clear he hblt hlt
      go_wp2_with fail
      refine (HCk.out _).mono ?_
      rintro r w2 ⟨rfl, hb2⟩
      have H2 : Hid (Below w.heap.size w w2) := Ha.out.trans (hb2.mono Ha.out.size)
      clear hb2 HCk Ha
      rcases hce with hce | hce
      · have Hk := Lib.hid (Hz.out.1 hce)
        rw [hce]
        clear hce Hz
        go_wp2_with fail
        go_roundw
        case rel =>
          refine ⟨i + 1, by go_num, by omega, fun j f hj hf => ?_, H2.out⟩
          rcases Nat.lt_or_ge j i with q | q
          · exact hst.out.1 j f q hf
          · obtain rfl : j = i := by omega
            rw [He.out] at hf
            cases hf
            exact Hk.out
        case measure => simp [intOf]; omega
      · have Hbad : Hid (okAll es = false) := by
          show _ = _
          cases hq : okAll es with
          | false => rfl
          | true => have := Hz.out.2 (okAll_iff.1 hq e (List.mem_of_getElem? He.out)); rw [hce] at this; cases this
        rw [hce]
        clear hce Hz
        go_wp2_with fail
        exact bodyPost_ret (v := .tuple #[.pointer none, .int .i64 1]) (by simp [results, Try.results10, go_sem]) rfl ⟨H2.out, .inr ⟨Hbad.out, rfl⟩⟩
    · obtain rfl : i = n := by omega
      have Hok : Hid (okAll es = true) := okAll_iff.2 fun e he => by
        obtain ⟨j, hj⟩ := List.getElem?_of_mem he
        exact hst.out.1 j e (by have := (List.getElem?_eq_some_iff.1 hj).1; have := Hn.out; omega) hj
      have HM2 := Lib.hid (HM.out Hok.out wr hst.out.2)
      clear HM hlt
      go_wp2_with fail
      refine HM2.out.mono ?_
      rintro r w3 ⟨v, out, rfl, hm⟩
      have hb3 : Below w.heap.size w w3 := hst.out.2.trans (hm.bel.mono hst.out.2.size)
      have Hf : Hid (Below w.heap.size w (w3.alloc (.cells #[v] 65)) ∧ SetAt (w3.alloc (.cells #[v] 65)) w.heap.size w3.heap.size out ∧ (∀ j, topE out j = topE es j) ∧ out.length + es.length ≤ 2 * (es.length * es.length)) :=
        ⟨hb3.alloc hb3.size _, ⟨⟨v, Cells.new w3 _ _, (hm.own.wideB hst.out.2.size).below ((Below.refl _ _).alloc (Nat.le_refl _) _)⟩, hm.plain, hb3.size, by have := hm.len; have := Hl2.out; omega⟩, hm.top, hm.len⟩
      obtain ⟨A3, c3, rfl, _⟩ := hm.own.rd
      clear hm hb3 HM2
      go_wp2_with fail
      exact bodyPost_ret (v := .tuple #[.pointer (some ⟨w3.heap.size, 0, none⟩), .int .i64 0]) (by simp [results, Try.results10, go_sem]) rfl ⟨Hf.out.1, .inl ⟨Hok.out, _, _, rfl, Hf.out.2.1, Hf.out.2.2.1, by have h9 := Hf.out.2.2.2; have e9 := Hn.out; rw [e9]; exact h9⟩⟩
end
end Go.Proofs.Ytghcfmkmndldoaa
