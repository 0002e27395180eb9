/-
  The second saying's Check, over, Has, Add.
-/
import Derived.Test.YtghcfmkmndldoaaKEl13
import Derived.Test.YtghcfmkmndldoaaKEl5
import Derived.Deep.RegionHeldLaw
namespace Go.Proofs.Ytghcfmkmndldoaa
open Go.RowKit Go.Sort Go.Lib

/-- the second saying's set in memory: its block g, its slice v -/
structure RefSet (w : World) (base g : Nat) (v : Value) (l : List Ec) : Prop where
  cell : Cells w g 29 [v]
  own : OwnE w base v l
  len : l.length ≤ 1000000
theorem RefSet.below {w w' : World} {base g : Nat} {v : Value} {l : List Ec} (h : RefSet w base g v l) (hb : Below w.heap.size w w') : RefSet w' base g v l := ⟨h.cell.move (hb.block _ h.cell.lt), h.own.below hb, h.len⟩
theorem cov_leB (e : Ec) (k : ByteArray) : covE e k = (leB e.1 k && Op.bytesLess k.toList e.2.1.toList) := rfl
section
set_option maxRecDepth 100000
set_option maxHeartbeats 4000000
theorem rcheck_any (e : Ec) (w : World) : Calls Try.prog 13 #[eV e] w fun r w' => r = .returned (.int .i64 (chkE e)) ∧ Below w.heap.size w w' := by
  have hb : Below w.heap.size w (w.alloc (.cells #[.string e.1, .string e.2.1, .int .u64 (e.2.2 : Int)] 32)) := (Below.refl _ _).alloc (Nat.le_refl _) _
  have Hb := Lib.hid hb
  have Hc : Hid (chkE e = if Op.bytesLess e.1.toList e.2.1.toList = true then 0 else 1) := rfl
  unfold eV
  generalize chkE e = ce at *
  generalize e.1 = lo at *
  generalize e.2.1 = hi at *
  cases h : Op.bytesLess lo.toList hi.toList with
  | true =>
    obtain rfl : ce = 0 := by rw [Hc.out, h]; rfl
    clear hb
    go_enter Try.func13, Try.ntmps13
    go_wp2_with fail
    go_ret
    exact ⟨rfl, Hb.out⟩
  | false =>
    obtain rfl : ce = 1 := by rw [Hc.out, h]; rfl
    clear hb
    go_enter Try.func13, Try.ntmps13
    go_wp2_with fail
    go_ret
    exact ⟨rfl, Hb.out⟩
theorem over_any (e : Ec) (k : ByteArray) (w : World) : Calls Try.prog 43 #[eV e, .string k] w fun r w' => r = .returned (.bool (covE e k)) ∧ Below w.heap.size w w' := by
  have hb : Below w.heap.size w (w.alloc (.cells #[.string e.1, .string e.2.1, .int .u64 (e.2.2 : Int)] 32)) := (Below.refl _ _).alloc (Nat.le_refl _) _
  have Hb := Lib.hid hb
  rw [cov_leB]
  have hlf := leB_form e.1 k
  unfold eV
  generalize e.1 = lo at *
  generalize e.2.1 = hi at *
  obtain ⟨q, hq⟩ : ∃ q, Op.bytesLess k.toList hi.toList = q := ⟨_, rfl⟩
  rw [hq]
  clear hb
  rcases less_total lo.toList k.toList with h | h | h
  · rw [h] at hlf
    rw [← hlf]
    clear hlf
    cases q
    all_goals
      go_enter Try.func43, Try.ntmps43
      go_wp2_with fail
      go_ret
      exact ⟨rfl, Hb.out⟩
  · have h2 : Op.bytesLess lo.toList k.toList = false := by rw [h]; exact less_irrefl _
    have h3 : (lo.toList == k.toList) = true := by rw [h]; simp
    rw [h2, h3] at hlf
    rw [← hlf]
    clear hlf h
    cases q
    all_goals
      go_enter Try.func43, Try.ntmps43
      go_wp2_with fail
      go_ret
      exact ⟨rfl, Hb.out⟩
  · have h2 := less_asymm h
    have h3 : (lo.toList == k.toList) = false := by
      rw [beq_eq_false_iff_ne]
      intro e
      rw [e, less_irrefl] at h
      cases h
    rw [h2, h3] at hlf
    rw [← hlf]
    clear hlf h
    go_enter Try.func43, Try.ntmps43
    go_wp2_with fail
    go_ret
    exact ⟨rfl, Hb.out⟩
theorem rhas_any (base g : Nat) (v : Value) (l : List Ec) (k : ByteArray) (s : Nat) (w : World) (h : RefSet w base g v l) :
    Calls Try.prog 21 #[.pointer (some ⟨g, 0, none⟩), .string k, .int .u64 (s : Int)] w fun r w' => r = .returned (.bool (decide (s < topE l k))) ∧ Below w.heap.size w w' := by
  obtain ⟨A, c, rfl, hc, _, hr, _⟩ := h.own.rd
  have H0 : Hid (Cells w g 29 [.slice A l.length c] ∧ RE w w.heap.size A l) := ⟨h.cell, hr⟩
  have hl' : (l.length : Int) ≤ 1000000 := by have := h.len; omega
  have Hlen : Hid (∀ k : Nat, k < l.length → ∃ u, l[k]? = some u) := fun k hk => ⟨_, List.getElem?_eq_getElem hk⟩
  obtain ⟨dv, hdv⟩ : ∃ dv, dv = decide (s < topE l k) := ⟨_, rfl⟩
  rw [← hdv]
  have Hdv := Lib.hid hdv
  obtain ⟨n, hn⟩ : ∃ n, n = l.length := ⟨_, rfl⟩
  rw [← hn] at H0 hl' Hlen
  have Hn := Lib.hid hn
  clear h hr hc hdv hn
  go_enter Try.func21, Try.ntmps21
  go_wp2_with fail
  go_loopw [7] (fun iv wr => ∃ i : Nat, iv = .int .i64 (i : Int) ∧ i ≤ n ∧ Hid ((∀ j e, j < i → l[j]? = some e → covE e k = true → ¬ s ≤ e.2.2) ∧ Below w.heap.size w wr)) (fun iv _ => n - (intOf iv).toNat)
  case atStart => exact ⟨0, rfl, Nat.zero_le _, fun j e hj => absurd hj (Nat.not_lt_zero _), Below.refl _ _⟩
  case round =>
    obtain ⟨i, rfl, hi, hst⟩ := hrel
    have g0 := (H0.out.1.move (hst.out.2.block _ H0.out.1.lt)).cell (i := 0) rfl
    by_cases hlt : i < n
    · obtain ⟨e, he⟩ := Hlen.out i hlt
      obtain ⟨b, o, rfl, _, x0, x1, x2⟩ := (H0.out.2.below hst.out.2) i e he
      have hlt' : (i : Int) < (n : Int) := by omega
      have HO := Lib.hid (over_any e k wr)
      have He := Lib.hid he
      unfold eV at HO
      have Hx : Hid (∀ W, Below wr.heap.size wr W → W.cell? ⟨g, 0, none⟩ = some (.slice (some ⟨b, o, none⟩) n c) ∧ W.cell? ⟨b, o + i * 3 + 2, none⟩ = some (.int .u64 (e.2.2 : Int))) := fun W hW => by
        have hW0 : Below w.heap.size w W := hst.out.2.trans (hW.mono hst.out.2.size)
        refine ⟨(H0.out.1.move (hW0.block _ H0.out.1.lt)).cell (i := 0) rfl, ?_⟩
        obtain ⟨b', o', e', _, _, _, q⟩ := (H0.out.2.below hW0) i e he
        cases e'
        exact q
      clear he hlt
      cases hcv : covE e k with
      | false =>
        rw [hcv] at HO
        have Hno : Hid (∀ j f, j < i + 1 → l[j]? = some f → covE f k = true → ¬ s ≤ f.2.2) := fun j f hj hf hc => by
          rcases Nat.lt_or_ge j i with q | q
          · exact hst.out.1 j f q hf hc
          · obtain rfl : j = i := by omega
            rw [He.out] at hf
            cases hf
            rw [hcv] at hc
            cases hc
        clear hcv
        go_wp2_with fail
        refine HO.out.mono ?_
        rintro r w2 ⟨rfl, hb2⟩
        have H2 : Hid (Below w.heap.size w w2) := hst.out.2.trans (hb2.mono hst.out.2.size)
        clear hb2 HO
        go_wp2_with fail
        go_roundw
        case rel => exact ⟨i + 1, by go_num, by omega, Hno.out, H2.out⟩
        case measure => simp [intOf]; omega
      | true =>
        rw [hcv] at HO
        by_cases hs : s ≤ e.2.2
        · obtain rfl : dv = true := by
            rw [Hdv.out]
            exact decide_eq_true (has_iff.2 ⟨e, List.mem_of_getElem? He.out, hcv, hs⟩)
          have hs' : (e.2.2 : Int) ≥ (s : Int) := by omega
          clear hcv hs
          go_wp2_with fail
          refine HO.out.mono ?_
          rintro r w2 ⟨rfl, hb2⟩
          obtain ⟨y0, y1⟩ := Hx.out w2 hb2
          have H2 : Hid (Below w.heap.size w w2) := hst.out.2.trans (hb2.mono hst.out.2.size)
          clear hb2 HO
          go_wp2_with fail
          go_ret
          exact ⟨rfl, H2.out⟩
        · have Hno : Hid (∀ j f, j < i + 1 → l[j]? = some f → covE f k = true → ¬ s ≤ f.2.2) := fun j f hj hf hc => by
            rcases Nat.lt_or_ge j i with q | q
            · exact hst.out.1 j f q hf hc
            · obtain rfl : j = i := by omega
              rw [He.out] at hf
              cases hf
              exact hs
          have hs' : ¬ (e.2.2 : Int) ≥ (s : Int) := by omega
          clear hcv hs
          go_wp2_with fail
          refine HO.out.mono ?_
          rintro r w2 ⟨rfl, hb2⟩
          obtain ⟨y0, y1⟩ := Hx.out w2 hb2
          have H2 : Hid (Below w.heap.size w w2) := hst.out.2.trans (hb2.mono hst.out.2.size)
          clear hb2 HO
          go_wp2_with fail
          go_roundw
          case rel => exact ⟨i + 1, by go_num, by omega, Hno.out, H2.out⟩
          case measure => simp [intOf]; omega
    · obtain rfl : i = n := by omega
      obtain rfl : dv = false := by
        rw [Hdv.out]
        refine decide_eq_false fun q => ?_
        obtain ⟨e, he, h1, h2⟩ := has_iff.1 q
        obtain ⟨j, hj⟩ := List.getElem?_of_mem he
        exact hst.out.1 j e (by have := (List.getElem?_eq_some_iff.1 hj).1; have := Hn.out; omega) hj h1 h2
      have Hf := Lib.hid hst.out.2
      clear hst hlt
      go_wp2_with fail
      go_ret
      exact ⟨rfl, Hf.out⟩
end
end Go.Proofs.Ytghcfmkmndldoaa

/-
  bounds: all Lo and Hi, rising, each once.
-/
namespace Go.Proofs.Ytghcfmkmndldoaa
open Go.RowKit Go.Sort Go.Lib

/-- what bounds leaves -/
def BndP (l : List Ec) (out : List ByteArray) : Prop := SortB out ∧ (∀ y, y ∈ out ↔ y ∈ bndE l) ∧ out.length ≤ 2 * l.length
theorem bnd_take {l : List Ec} {i : Nat} {e : Ec} (he : l[i]? = some e) : bndE (l.take (i + 1)) = bndE (l.take i) ++ [e.1, e.2.1] := by
  rw [List.take_add_one, he]
  simp [bndE]
section
set_option maxRecDepth 100000
set_option maxHeartbeats 8000000
theorem rbounds_any (base g : Nat) (v : Value) (l : List Ec) (w : World) (h : RefSet w base g v l) :
    Calls Try.prog 42 #[.pointer (some ⟨g, 0, none⟩)] w fun r w' => ∃ A' c' out, r = .returned (.slice A' out.length c') ∧ out.length ≤ c' ∧ RS w' w'.heap.size A' out ∧ BndP l out ∧ Below w.heap.size w w' := by
  obtain ⟨A, c, rfl, hc, -, hr, -⟩ := h.own.rd
  have H0 : Hid (Cells w g 29 [.slice A l.length c] ∧ RE w w.heap.size A l) := ⟨h.cell, hr⟩
  have hl9 := h.len
  have Hlen : Hid (∀ k : Nat, k < l.length → ∃ u, l[k]? = some u) := fun k hk => ⟨_, List.getElem?_eq_getElem hk⟩
  obtain ⟨n, hn⟩ : ∃ n, n = l.length := ⟨_, rfl⟩
  rw [← hn] at H0 Hlen hl9
  have Hn := Lib.hid hn
  have hl' : (n : Int) ≤ 1000000 := by omega
  clear h hr hc hn
  go_enter Try.func42, Try.ntmps42
  go_wp2_with fail
  go_loopw [3, 4] (fun lv iv wr => ∃ (i : Nat) (A' : Option Addr) (m c' : Nat), iv = .int .i64 (i : Int) ∧ lv = .slice A' m c' ∧ i ≤ n ∧ m ≤ c' ∧ Hid (∃ out : List ByteArray, m = out.length ∧ RS wr wr.heap.size A' out ∧ SortB out ∧ (∀ y, y ∈ out ↔ y ∈ bndE (l.take i)) ∧ out.length ≤ 2 * i ∧ Below w.heap.size w wr)) (fun _ iv _ => n - (intOf iv).toNat)
  case atStart => exact ⟨0, none, 0, 0, rfl, rfl, Nat.zero_le _, Nat.le_refl _, [], rfl, RS.nil _ _ _, List.Pairwise.nil, fun y => by simp [bndE], Nat.zero_le _, Below.refl _ _⟩
  case round =>
    obtain ⟨i, A', m, c', rfl, rfl, hi, hmc, hst⟩ := hrel
    obtain ⟨out, hst0⟩ := hst.out
    have hst := Lib.hid hst0
    clear hst0
    have g0 := (H0.out.1.move (hst.out.2.2.2.2.2.block _ H0.out.1.lt)).cell (i := 0) rfl
    by_cases hlt : i < n
    · obtain ⟨e, he⟩ := Hlen.out i hlt
      obtain ⟨b, o, rfl, _, x0, x1, x2⟩ := (H0.out.2.below hst.out.2.2.2.2.2) i e he
      have hlt' : (i : Int) < (n : Int) := by omega
      have HL1 : Hid (Calls Try.prog 65 #[.slice A' m c', .string e.1] wr fun r w' => ∃ A2 c2 out2, r = .returned (.slice A2 out2.length c2) ∧ out2.length ≤ c2 ∧ RS w' w'.heap.size A2 out2 ∧ LayP out e.1 out2 ∧ Below wr.heap.size wr w') := by
        have := rlay_any A' c' out e.1 wr hst.out.2.1 (by rw [← hst.out.1]; exact hmc) hst.out.2.2.1 (by have := hst.out.2.2.2.2.1; omega)
        rw [← hst.out.1] at this
        exact this
      have He : Hid (l[i]? = some e ∧ i < n) := ⟨he, hlt⟩
      have Hx : Hid (∀ W, Below wr.heap.size wr W → W.cell? ⟨g, 0, none⟩ = some (.slice (some ⟨b, o, none⟩) n c) ∧ W.cell? ⟨b, o + i * 3 + 1, none⟩ = some (.string e.2.1)) := fun W hW => by
        have hW0 : Below w.heap.size w W := hst.out.2.2.2.2.2.trans (hW.mono hst.out.2.2.2.2.2.size)
        refine ⟨(H0.out.1.move (hW0.block _ H0.out.1.lt)).cell (i := 0) rfl, ?_⟩
        obtain ⟨b', o', e', _, _, q, _⟩ := (H0.out.2.below hW0) i e he
        cases e'
        exact q
      clear he hlt
      go_wp2_with fail
      refine HL1.out.mono ?_
      rintro r w2 ⟨A2, c2, out2, rfl, hc2, hr2, hp2, hb2⟩
      obtain ⟨y0, y1⟩ := Hx.out w2 hb2
      have hm2 : out2.length ≤ 2 * i + 1 := by have := hp2.2.2; have := hst.out.2.2.2.2.1; omega
      have HL2 := Lib.hid (rlay_any A2 c2 out2 e.2.1 w2 hr2 hc2 hp2.1 (by omega))
      have H2 : Hid (LayP out e.1 out2 ∧ Below w.heap.size w w2) := ⟨hp2, hst.out.2.2.2.2.2.trans (hb2.mono hst.out.2.2.2.2.2.size)⟩
      generalize out2.length = m2 at *
      clear hr2 hp2 hb2 HL1 hm2
      go_wp2_with fail
      refine HL2.out.mono ?_
      rintro r w3 ⟨A3, c3, out3, rfl, hc3, hr3, hp3, hb3⟩
      have H3 : Hid (∃ out : List ByteArray, out3.length = out.length ∧ RS w3 w3.heap.size A3 out ∧ SortB out ∧ (∀ y, y ∈ out ↔ y ∈ bndE (l.take (i + 1))) ∧ out.length ≤ 2 * (i + 1) ∧ Below w.heap.size w w3) := by
        refine ⟨out3, rfl, hr3, hp3.1, fun y => ?_, ?_, H2.out.2.trans (hb3.mono H2.out.2.size)⟩
        · rw [bnd_take He.out.1, hp3.2.1, H2.out.1.2.1, hst.out.2.2.2.1, List.mem_append]
          simp only [List.mem_cons, List.not_mem_nil, or_false]
          constructor
          · rintro (q | q | q)
            · exact .inr (.inr q)
            · exact .inr (.inl q)
            · exact .inl q
          · rintro (q | q | q)
            · exact .inr (.inr q)
            · exact .inr (.inl q)
            · exact .inl q
        · have q1 := hp3.2.2
          have q2 := H2.out.1.2.2
          have q3 := hst.out.2.2.2.2.1
          omega
      generalize out3.length = m3 at *
      clear hr3 hp3 hb3 HL2
      go_wp2_with fail
      go_roundw
      case rel => exact ⟨i + 1, A3, m3, c3, by go_num, rfl, by have := He.out.2; omega, hc3, H3.out⟩
      case measure => have := He.out.2; simp [intOf]; omega
    · obtain rfl : i = n := by omega
      have Hf : Hid (RS wr wr.heap.size A' out ∧ BndP l out ∧ Below w.heap.size w wr ∧ m = out.length ∧ out.length ≤ c') := by
        have e : l.take i = l := List.take_of_length_le (by have := Hn.out; omega)
        have q := hst.out.2.2.2.1
        rw [e] at q
        exact ⟨hst.out.2.1, ⟨hst.out.2.2.1, q, by have := hst.out.2.2.2.2.1; have := Hn.out; omega⟩, hst.out.2.2.2.2.2, hst.out.1, by rw [← hst.out.1]; exact hmc⟩
      clear hst hlt
      go_wp2_with fail
      go_ret
      exact ⟨_, _, out, by rw [← Hf.out.2.2.2.1]; rfl, Hf.out.2.2.2.2, Hf.out.1, Hf.out.2.1, Hf.out.2.2.1⟩
end
end Go.Proofs.Ytghcfmkmndldoaa

/-
  The second saying's List, plain: bound by bound.
-/
namespace Go.Proofs.Ytghcfmkmndldoaa

theorem sort_idx {b : List ByteArray} (hs : SortB b) {s t : Nat} {x z : ByteArray} (hx : b[s]? = some x) (hz : b[t]? = some z) (h : s < t) : kl x z := by
  obtain ⟨s1, s2⟩ := List.getElem?_eq_some_iff.1 hx
  obtain ⟨t1, t2⟩ := List.getElem?_eq_some_iff.1 hz
  have := List.pairwise_iff_getElem.1 hs s t s1 t1 h
  rwa [s2, t2] at this
theorem top_congr {l : List Ec} {j k : ByteArray} (h : ∀ e ∈ l, covE e j = covE e k) : topE l j = topE l k := by
  induction l with
  | nil => rfl
  | cons a l ih => rw [topE, topE, h a List.mem_cons_self, ih fun e he => h e (List.mem_cons_of_mem _ he)]
theorem top_between {l : List Ec} {b : List ByteArray} (hb : SortB b) (hm : ∀ y, y ∈ b ↔ y ∈ bndE l) {i : Nat} {x y : ByteArray} (hx : b[i]? = some x) (hy : b[i + 1]? = some y) {j : ByteArray} (h1 : ke x j) (h2 : kl j y) : topE l j = topE l x := by
  have hA : ∀ z ∈ b, (ke z j ↔ ke z x) := fun z hz => by
    constructor
    · intro q
      have q2 := ke_kl q h2
      obtain ⟨t, ht⟩ := List.getElem?_of_mem hz
      rcases Nat.lt_trichotomy t i with c | c | c
      · exact (sort_idx hb ht hx c).ke
      · subst c
        rw [hx] at ht
        cases ht
        exact ke_refl _
      · rcases Nat.lt_or_ge (i + 1) t with c2 | c2
        · exact absurd (kl_trans q2 (sort_idx hb hy ht c2)) (kl_irrefl _)
        · obtain rfl : t = i + 1 := by omega
          rw [hy] at ht
          cases ht
          exact absurd q2 (kl_irrefl _)
    · exact fun q => ke_trans q h1
  refine top_congr fun e he => ?_
  have hm1 := hA e.1 ((hm _).2 (bnd_mem he).1)
  have hm2 := hA e.2.1 ((hm _).2 (bnd_mem he).2)
  have : covE e j = true ↔ covE e x = true := by
    rw [covE_iff, covE_iff, hm1]
    have hn : kl j e.2.1 ↔ kl x e.2.1 := by
      constructor
      · intro q
        rcases ke_or e.2.1 x with p | p
        · exact absurd q (ke_iff.1 (hm2.2 p))
        · exact p
      · intro q
        rcases ke_or e.2.1 j with p | p
        · exact absurd q (ke_iff.1 (hm2.1 p))
        · exact p
    rw [hn]
  cases h3 : covE e x with
  | true => exact this.2 h3
  | false =>
    cases h4 : covE e j with
    | false => rfl
    | true => rw [this.1 h4] at h3; cases h3
theorem join_mem {p : ByteArray → Prop} {l : List Ec} {e : Ec} (h : ∀ x ∈ l, p x.1 ∧ p x.2.1) (he : p e.1 ∧ p e.2.1) : ∀ x ∈ joinE l e, p x.1 ∧ p x.2.1 := by
  by_cases h0 : l = []
  · subst h0
    rw [join_nil]
    intro x hx
    rw [List.mem_singleton.1 hx]
    exact he
  · obtain ⟨m, x, rfl⟩ := snoc_of h0
    rw [join_snoc]
    have hm : ∀ z ∈ m, p z.1 ∧ p z.2.1 := fun z hz => h z (List.mem_append_left _ hz)
    have hx := h x (by simp)
    split
    · intro z hz
      rcases List.mem_append.1 hz with hz | hz
      · exact hm z hz
      · rw [List.mem_singleton.1 hz]; exact ⟨hx.1, he.2⟩
    · intro z hz
      rcases List.mem_append.1 hz with hz | hz
      · exact h z hz
      · rw [List.mem_singleton.1 hz]; exact he
/-- WHERE List STANDS at its i-th bound -/
structure ListSt (l : List Ec) (b : List ByteArray) (out : List Ec) (i : Nat) : Prop where
  at_ : ∀ x, b[i]? = some x → BothSt (topE l) out x
  nil : b = [] → out = []
  len : out.length ≤ i
  mem : ∀ x ∈ out, x.1 ∈ b ∧ x.2.1 ∈ b
  le : i + 1 ≤ b.length ∨ (b = [] ∧ i = 0)
/-- what List tells -/
structure ListP (l out : List Ec) : Prop where
  plain : PlainE out
  top : ∀ j, topE out j = topE l j
  mem : ∀ x ∈ out, x.1 ∈ bndE l ∧ x.2.1 ∈ bndE l
  len : out.length ≤ 2 * l.length
section
variable {l out : List Ec} {b : List ByteArray} {i : Nat}
theorem ListSt.start (hb : BndP l b) : ListSt l b [] 0 := by
  refine ⟨fun x hx => ⟨PlainE.nil, (fun _ h => by cases h), fun j hj => ?_⟩, fun _ => rfl, Nat.le_refl _, (fun _ h => by cases h), ?_⟩
  · show 0 = _
    refine (top_zero fun e he hc => ?_).symm
    obtain ⟨t, ht⟩ := List.getElem?_of_mem ((hb.2.1 _).2 (bnd_mem he).1)
    have h1 := ke_kl (covE_iff.1 hc).1 hj
    rcases Nat.eq_zero_or_pos t with c | c
    · subst c
      rw [hx] at ht
      cases ht
      exact kl_irrefl _ h1
    · exact kl_irrefl _ (kl_trans h1 (sort_idx hb.1 hx ht c))
  · cases b with
    | nil => exact .inr ⟨rfl, rfl⟩
    | cons a b => exact .inl (by simp)
theorem ListSt.skip (h : ListSt l b out i) (hb : BndP l b) {x y : ByteArray} (hx : b[i]? = some x) (hy : b[i + 1]? = some y) (h0 : topE l x = 0) : ListSt l b out (i + 1) := by
  have hst := h.at_ x hx
  have hxy := sort_idx hb.1 hx hy (Nat.lt_succ_self _)
  refine ⟨fun z hz => ?_, h.nil, Nat.le_succ_of_le h.len, h.mem, .inl ?_⟩
  · rw [hy] at hz
    cases hz
    refine ⟨hst.plain, fun z hz => ke_trans (hst.low z hz) hxy.ke, fun j hj => ?_⟩
    rcases ke_or x j with q | q
    · rw [top_between hb.1 hb.2.1 hx hy q hj, h0]
      exact top_zero fun z hz hc => ke_iff.1 (hst.low z hz) (ke_kl q (covE_iff.1 hc).2)
    · exact hst.is j q
  · have := (List.getElem?_eq_some_iff.1 hy).1
    omega
theorem ListSt.join (h : ListSt l b out i) (hb : BndP l b) {x y : ByteArray} (hx : b[i]? = some x) (hy : b[i + 1]? = some y) {s : Nat} (h0 : topE l x = s + 1) : ListSt l b (joinE out (x, y, s)) (i + 1) := by
  have hst := h.at_ x hx
  have hxy := sort_idx hb.1 hx hy (Nat.lt_succ_self _)
  have hxm := List.mem_of_getElem? hx
  have hym := List.mem_of_getElem? hy
  have hA : AtE (topE l) b x (x, y, s) := .inr ⟨hxy, ke_refl _, fun j h1 h2 => absurd h2 (ke_iff.1 h1), fun j h1 h2 => by rw [top_between hb.1 hb.2.1 hx hy h1 h2, h0], hym, .inl rfl⟩
  have := hst.step hA (not_zero hxy)
  refine ⟨fun z hz => ?_, fun q => ?_, Nat.le_trans (join_len _ _) (Nat.succ_le_succ h.len), join_mem h.mem ⟨hxm, hym⟩, .inl ?_⟩
  · rw [hy] at hz
    cases hz
    exact this.1
  · rw [q] at hx; cases hx
  · have := (List.getElem?_eq_some_iff.1 hy).1
    omega
theorem ListSt.done (h : ListSt l b out i) (hb : BndP l b) (hi : ¬ i + 1 < b.length) : ListP l out := by
  rcases h.le with hle | ⟨q, _⟩
  · have hlt : i < b.length := by omega
    have hx := List.getElem?_eq_getElem hlt
    have hst := h.at_ _ hx
    refine ⟨hst.plain, fun j => ?_, fun z hz => ⟨(hb.2.1 _).1 (h.mem z hz).1, (hb.2.1 _).1 (h.mem z hz).2⟩, by have := h.len; have := hb.2.2; omega⟩
    rcases ke_or b[i] j with q | q
    · have h1 : topE l j = 0 := top_zero fun e he hc => by
        obtain ⟨t, ht⟩ := List.getElem?_of_mem ((hb.2.1 _).2 (bnd_mem he).2)
        have ht2 := (List.getElem?_eq_some_iff.1 ht).1
        have hj := (covE_iff.1 hc).2
        rcases Nat.lt_or_ge t i with c | c
        · exact kl_irrefl j (kl_ke (kl_trans hj (sort_idx hb.1 ht hx c)) q)
        · obtain rfl : t = i := by omega
          have e9 : b[t] = e.2.1 := Option.some.inj (hx.symm.trans ht)
          rw [e9] at q
          exact kl_irrefl j (kl_ke hj q)
      rw [h1]
      exact top_zero fun z hz hc => ke_iff.1 (hst.low z hz) (ke_kl q (covE_iff.1 hc).2)
    · exact hst.is j q
  · have ho := h.nil q
    subst ho
    refine ⟨PlainE.nil, fun j => ?_, (fun _ h => by cases h), Nat.zero_le _⟩
    show 0 = _
    refine (top_zero fun e he _ => ?_).symm
    have := (hb.2.1 _).2 (bnd_mem he).1
    rw [q] at this
    cases this
end
/-- one more of those that are looked at -/
theorem top_take {l : List Ec} {k : Nat} {e : Ec} (he : l[k]? = some e) (x : ByteArray) : topE (l.take (k + 1)) x = max (topE (l.take k) x) (if covE e x = true then e.2.2 + 1 else 0) := by
  rw [List.take_add_one, he, top_append]
  simp [topE]
end Go.Proofs.Ytghcfmkmndldoaa

/-
  The second saying's List: the walk.
-/
namespace Go.Proofs.Ytghcfmkmndldoaa
open Go.RowKit Go.Sort Go.Lib

section
set_option maxRecDepth 100000
set_option maxHeartbeats 16000000
theorem rlist_any (base g : Nat) (v : Value) (l : List Ec) (w : World) (h : RefSet w base g v l) :
    Calls Try.prog 18 #[.pointer (some ⟨g, 0, none⟩)] w fun r w' => ∃ v' out, r = .returned v' ∧ OwnE w' w.heap.size v' out ∧ ListP l out ∧ Below w.heap.size w w' := by
  have HB := Lib.hid (rbounds_any base g v l w h)
  obtain ⟨A, c, rfl, hc, -, hr, -⟩ := h.own.rd
  have H0 : Hid (Cells w g 29 [.slice A l.length c] ∧ RE w w.heap.size A l) := ⟨h.cell, hr⟩
  have hl9 := h.len
  have Hlen : Hid (∀ k : Nat, k < l.length → ∃ u, l[k]? = some u) := fun k hk => ⟨_, List.getElem?_eq_getElem hk⟩
  obtain ⟨n, hn⟩ : ∃ n, n = l.length := ⟨_, rfl⟩
  rw [← hn] at H0 Hlen hl9
  have Hn := Lib.hid hn
  have hl' : (n : Int) ≤ 1000000 := by omega
  clear h hr hc hn
  go_enter Try.func18, Try.ntmps18
  go_wp2_with fail
  refine HB.out.mono ?_
  rintro r w1 ⟨Ab, cb, bs, rfl, hcb, hrb, hbp, hb1⟩
  have HBp := Lib.hid hbp
  have H1 : Hid (RS w1 w1.heap.size Ab bs ∧ Below w.heap.size w w1) := ⟨hrb, hb1⟩
  have Hblen : Hid (∀ k : Nat, k < bs.length → ∃ u, bs[k]? = some u) := fun k hk => ⟨_, List.getElem?_eq_getElem hk⟩
  have hm9 : bs.length ≤ 2000000 := by have := hbp.2.2; have := Hn.out; omega
  obtain ⟨m, hm⟩ : ∃ m, m = bs.length := ⟨_, rfl⟩
  rw [← hm] at hcb Hblen hm9 ⊢
  have Hm := Lib.hid hm
  have hm' : (m : Int) ≤ 2000000 := by omega
  clear hrb hbp hb1 hm HB hcb
  go_wp2_with fail
  go_loopw [4, 5] (fun ov iv wr => ∃ (i : Nat) (v' : Value), iv = .int .i64 (i : Int) ∧ ov = v' ∧ i ≤ 2000000 ∧ Hid (∃ out, OwnE wr w1.heap.size v' out ∧ ListSt l bs out i ∧ Below w1.heap.size w1 wr)) (fun _ iv _ => m - (intOf iv).toNat)
  case atStart => exact ⟨0, _, rfl, rfl, Nat.zero_le _, [], OwnE.nil _ _, ListSt.start HBp.out, Below.refl _ _⟩
  case round =>
    obtain ⟨i, v', rfl, ev, hi, hst0⟩ := hrel
    obtain rfl := ev.symm
    obtain ⟨out, hst1⟩ := hst0.out
    have hst := Lib.hid hst1
    clear hst0 hst1
    have hiw : IntKind.i64.wrap ((i : Int) + 1) = (i : Int) + 1 := by rw [IntKind.wrap_i64]; omega
    have hi0 : (0 : Int) ≤ (i : Int) + 1 := by omega
    have hi1 : ((i : Int) + 1).toNat = i + 1 := by omega
    by_cases hlt : i + 1 < m
    · obtain ⟨x, hx⟩ := Hblen.out i (by omega)
      obtain ⟨y, hy⟩ := Hblen.out (i + 1) hlt
      obtain ⟨bb, bo, rfl, _, px⟩ := (H1.out.1.now hst.out.2.2) i x hx
      obtain ⟨bb', bo', e9, _, py⟩ := (H1.out.1.now hst.out.2.2) (i + 1) y hy
      cases e9
      have hlt' : (i : Int) + 1 < (m : Int) := by omega
      have hlt2 : (i : Int) < (m : Int) := by omega
      have Hxy : Hid (bs[i]? = some x ∧ bs[i + 1]? = some y ∧ i + 1 < m) := ⟨hx, hy, hlt⟩
      have Hbel : Hid (Below w.heap.size w wr) := H1.out.2.trans (hst.out.2.2.mono H1.out.2.size)
      clear hx hy hlt
      generalize wr = wo at *
      go_wp2_with fail
      go_loopw [6, 7, 8] (fun av sv kv wr => ∃ (k s : Nat) (a : Bool), av = .bool a ∧ sv = .int .u64 (s : Int) ∧ kv = .int .i64 (k : Int) ∧ k ≤ n ∧ Hid (Below wo.heap.size wo wr ∧ topE (l.take k) x = if a = true then s + 1 else 0)) (fun _ _ kv _ => n - (intOf kv).toNat)
      case atStart => exact ⟨0, 0, false, rfl, rfl, rfl, Nat.zero_le _, Below.refl _ _, rfl⟩
      case round =>
        obtain ⟨k, s, a, rfl, rfl, rfl, hk, hin⟩ := hrel
        have hwq : Below w.heap.size w wr := Hbel.out.trans (hin.out.1.mono Hbel.out.size)
        have g0 := (H0.out.1.move (hwq.block _ H0.out.1.lt)).cell (i := 0) rfl
        by_cases hkn : k < n
        · obtain ⟨e, he⟩ := Hlen.out k hkn
          obtain ⟨lb, lo, rfl, _, x0, x1, x2⟩ := (H0.out.2.below hwq) k e he
          have px1 := (hin.out.1.cell (by assumption)).trans px
          have hkn' : (k : Int) < (n : Int) := by omega
          have HO : Hid (∀ W, (W = wr ∨ W = wr.drew) → Calls Try.prog 43 #[eV e, .string x] W fun r w' => r = .returned (.bool (covE e x)) ∧ Below wr.heap.size wr w') := fun W hW => by
            rcases hW with rfl | rfl
            · exact over_any e x _
            · refine (over_any e x wr.drew).mono ?_
              rintro r w' ⟨rfl, hb⟩
              exact ⟨rfl, ((Below.refl _ _).drew).trans hb⟩
          have Hx2 : Hid (∀ W, Below wr.heap.size wr W → W.cell? ⟨g, 0, none⟩ = some (.slice (some ⟨lb, lo, none⟩) n c) ∧ W.cell? ⟨lb, lo + k * 3 + 2, none⟩ = some (.int .u64 (e.2.2 : Int))) := fun W hW => by
            have hW0 : Below w.heap.size w W := hwq.trans (hW.mono hwq.size)
            refine ⟨(H0.out.1.move (hW0.block _ H0.out.1.lt)).cell (i := 0) rfl, ?_⟩
            obtain ⟨b', o', e', _, _, _, q⟩ := (H0.out.2.below hW0) k e he
            cases e'
            exact q
          have d0 : wr.drew.cell? ⟨lb, lo + k * 3, none⟩ = some (.string e.1) := x0
          have d1 : wr.drew.cell? ⟨lb, lo + k * 3 + 1, none⟩ = some (.string e.2.1) := x1
          have d2 : wr.drew.cell? ⟨lb, lo + k * 3 + 2, none⟩ = some (.int .u64 (e.2.2 : Int)) := x2
          have d3 : wr.drew.cell? ⟨g, 0, none⟩ = some (.slice (some ⟨lb, lo, none⟩) n c) := g0
          have d4 : wr.drew.cell? ⟨bb, bo + i, none⟩ = some (.string x) := px1
          have He : Hid (l[k]? = some e ∧ k < n) := ⟨he, hkn⟩
          unfold eV at HO
          cases hcv : covE e x with
          | false =>
            rw [hcv] at HO
            have Ht : Hid (topE (l.take (k + 1)) x = if a = true then s + 1 else 0) := by
              show _ = _
              rw [top_take he, hcv, hin.out.2]
              simp
            clear hcv he hkn hwq
            go_upto_region 11 with fail
            go_region_with (go_at_call 43; refine (HO.out _ (by first | exact .inl (by with_reducible rfl) | exact .inr (by with_reducible rfl))).mono ?_; rintro r w2 ⟨rfl, hb2⟩; have H2 := Lib.hid hb2; clear hb2)
            all_goals
              go_wp2_with fail
              go_roundw
              case rel => exact ⟨k + 1, s, a, rfl, rfl, by go_num, by have := He.out.2; omega, hin.out.1.trans (H2.out.mono hin.out.1.size), Ht.out⟩
              case measure => have := He.out.2; simp [intOf]; omega
          | true =>
            rw [hcv] at HO
            have Ht : Hid (topE (l.take (k + 1)) x = max (if a = true then s + 1 else 0) (e.2.2 + 1)) := by
              show _ = _
              rw [top_take he, hcv, hin.out.2]
              simp
            clear hcv he hkn hwq
            go_upto_region 11 with fail
            go_region_with (go_at_call 43; refine (HO.out _ (by first | exact .inl (by with_reducible rfl) | exact .inr (by with_reducible rfl))).mono ?_; rintro r w2 ⟨rfl, hb2⟩; have H2 := Lib.hid hb2; obtain ⟨y0, y1⟩ := Hx2.out w2 H2.out; clear hb2)
            all_goals
              cases a with
              | false =>
                go_wp2_with fail
                go_roundw
                case rel => exact ⟨k + 1, e.2.2, true, rfl, rfl, by go_num, by have := He.out.2; omega, hin.out.1.trans (H2.out.mono hin.out.1.size), by rw [Ht.out]; simp⟩
                case measure => have := He.out.2; simp [intOf]; omega
              | true =>
                rcases Nat.lt_or_ge s e.2.2 with hs | hs
                · have hs' : (e.2.2 : Int) > (s : Int) := by omega
                  have hs2 : (s : Int) < (e.2.2 : Int) := by omega
                  go_wp2_with fail
                  go_roundw
                  case rel => exact ⟨k + 1, e.2.2, true, rfl, rfl, by go_num, by have := He.out.2; omega, hin.out.1.trans (H2.out.mono hin.out.1.size), by rw [Ht.out]; simp; omega⟩
                  case measure => have := He.out.2; simp [intOf]; omega
                · have hs' : ¬ (e.2.2 : Int) > (s : Int) := by omega
                  have hs2 : ¬ (s : Int) < (e.2.2 : Int) := by omega
                  go_wp2_with fail
                  go_roundw
                  case rel => exact ⟨k + 1, s, true, rfl, rfl, by go_num, by have := He.out.2; omega, hin.out.1.trans (H2.out.mono hin.out.1.size), by rw [Ht.out]; simp; omega⟩
                  case measure => have := He.out.2; simp [intOf]; omega
        · obtain rfl : k = n := by omega
          have Ht : Hid (topE l x = if a = true then s + 1 else 0) := by
            show _ = _
            rw [← hin.out.2, List.take_of_length_le (by have := Hn.out; omega)]
          have hwb : Below w1.heap.size w1 wr := hst.out.2.2.trans (hin.out.1.mono hst.out.2.2.size)
          have Hw1 : Hid (w.heap.size ≤ w1.heap.size) := H1.out.2.size
          cases a with
          | false =>
            have Hn9 : Hid (OwnE wr w1.heap.size v' out ∧ ListSt l bs out (i + 1) ∧ Below w1.heap.size w1 wr) := ⟨hst.out.1.below hin.out.1, hst.out.2.1.skip HBp.out Hxy.out.1 Hxy.out.2.1 (by rw [Ht.out]; rfl), hwb⟩
            clear hkn hwq hwb Ht
            go_wp2_with fail
            go_roundw
            case rel => exact ⟨i + 1, v', by go_num, rfl, by have := Hxy.out.2.2; omega, out, Hn9.out⟩
            case measure => have := Hxy.out.2.2; simp [intOf]; omega
          | true =>
            have Hj : Hid (ListSt l bs (joinE out (x, y, s)) (i + 1)) := hst.out.2.1.join HBp.out Hxy.out.1 Hxy.out.2.1 (by rw [Ht.out]; rfl)
            have ho : OwnE wr w1.heap.size v' out := hst.out.1.below hin.out.1
            have hol : out.length ≤ 2000000 := by have := hst.out.2.1.len; have := Hxy.out.2.2; omega
            have px1 := (hin.out.1.cell (by assumption)).trans px
            have py1 := (hin.out.1.cell (by assumption)).trans py
            have Hwb := Lib.hid hwb
            obtain ⟨A9, c9, rfl, hc9, -, hr9, hge, hfl⟩ := ho.rd
            by_cases h0 : out = []
            · subst h0
              have HH : Hid (OwnE wr w1.heap.size (.slice A9 0 c9) []) := ho
              have Hst : Hid (∀ W : World, Below wr.heap.size wr W → OwnE (W.alloc (.cells #[.string x, .string y, .int .u64 (s : Int)] 32)) w1.heap.size (.slice A9 0 c9) [] ∧ Below w1.heap.size w1 (W.alloc (.cells #[.string x, .string y, .int .u64 (s : Int)] 32)) ∧ w1.heap.size ≤ (W.alloc (.cells #[.string x, .string y, .int .u64 (s : Int)] 32)).heap.size) := fun W q => by
                have q2 : Below wr.heap.size wr (W.alloc (.cells #[.string x, .string y, .int .u64 (s : Int)] 32)) := q.alloc q.size _
                exact ⟨HH.out.below q2, Hwb.out.trans (q2.mono Hwb.out.size), Nat.le_trans Hwb.out.size q2.size⟩
              have He : Hid (∀ W : World, RE (W.alloc (.cells #[.string x, .string y, .int .u64 (s : Int)] 32)) (W.heap.size + 1) (some ⟨W.heap.size, 0, none⟩) [(x, y, s)]) := fun W => RE.one W (x, y, s)
              have Hle : Hid (([] : List Ec).length + [(x, y, s)].length ≤ 1099511627776) := by show _ ≤ _; simp
              have Hjn : Hid (joinE [] (x, y, s) = [] ++ [(x, y, s)]) := rfl
              clear hkn hwq hwb Ht ho hst hin hr9 hge hfl
              go_wp2_with fail
              go_quiet (fail)
              go_wp2_with fail
              obtain ⟨wd, hwd⟩ : ∃ wd, wd = wr.drewN nq := ⟨_, rfl⟩
              have px2 : wd.cell? ⟨bb, bo + i, none⟩ = some (.string x) := by rw [hwd]; exact px1
              have py2 : wd.cell? ⟨bb, bo + (i + 1), none⟩ = some (.string y) := by rw [hwd]; exact py1
              have Hwd : Hid (Below wr.heap.size wr wd) := by rw [hwd]; exact below_dr (Below.refl _ _) nq
              rw [← hwd]
              clear hwd px1 py1
              have dx2 : wd.drew.cell? ⟨bb, bo + i, none⟩ = some (.string x) := px2
              have dy2 : wd.drew.cell? ⟨bb, bo + (i + 1), none⟩ = some (.string y) := py2
              obtain ⟨Y, hY⟩ : ∃ Y, Y = wd.alloc (.cells #[.string x, .string y, .int .u64 (s : Int)] 32) := ⟨_, rfl⟩
              have H9 : Hid (∀ X, (X = Y ∨ X = Y.drew) → OwnE X w1.heap.size (.slice A9 0 c9) [] ∧ RE X (wd.heap.size + 1) (some ⟨wd.heap.size, 0, none⟩) [(x, y, s)] ∧ w1.heap.size ≤ X.heap.size ∧ Below w1.heap.size w1 X) := fun X hX => by
                have q := Hst.out wd Hwd.out
                have q2 := He.out wd
                rw [← hY] at q q2
                rcases hX with rfl | rfl
                · exact ⟨q.1, q2, q.2.2, q.2.1⟩
                · exact ⟨q.1, q2, q.2.2, q.2.1.drew⟩
              rw [hY] at H9
              have Hl6 : Hid (([] ++ [(x, y, s)] : List Ec).length = 1) := by show _ = _; rfl
              clear hY Hst He Hwd
              go_region_law (first | (go_must (refine step_app_elisions (es := []) (fs := [(x, y, s)]) (by rfl) (.tmp 101) (.tmp 113) (by rfl) (by rfl) (H9.out _ (by first | exact .inl (by with_reducible rfl) | exact .inr (by with_reducible rfl))).1 1 1 (by rfl) rfl (H9.out _ (by first | exact .inl (by with_reducible rfl) | exact .inr (by with_reducible rfl))).2.1 Hle.out (H9.out _ (by first | exact .inl (by with_reducible rfl) | exact .inr (by with_reducible rfl))).2.2.1 ?_); intro v6 w6 r6 g6 _; have k6 : Below w1.heap.size w1 w6 := (H9.out _ (by first | exact .inl (by with_reducible rfl) | exact .inr (by with_reducible rfl))).2.2.2.grown g6 (H9.out _ (by first | exact .inl (by with_reducible rfl) | exact .inr (by with_reducible rfl))).2.2.1 fun k hk => ((H9.out _ (by first | exact .inl (by with_reducible rfl) | exact .inr (by with_reducible rfl))).1.ge k hk).1; obtain ⟨A6, n6, e6, -⟩ := r6.rd; rw [Hl6.out] at e6; subst e6; have H6 : Hid (OwnE w6 w1.heap.size (.slice A6 (1) n6) (joinE [] (x, y, s)) ∧ Below w1.heap.size w1 w6) := ⟨by rw [Hjn.out]; exact r6, k6⟩; clear r6 g6 k6))
              all_goals
                go_wp2_with fail
                go_roundw
                case rel => exact ⟨i + 1, .slice A6 (1) n6, by go_num, rfl, by have := Hxy.out.2.2; omega, _, H6.out.1, Hj.out, H6.out.2⟩
                case measure => have := Hxy.out.2.2; simp [intOf]; omega
            · obtain ⟨mm, z, rfl⟩ := snoc_of h0
              obtain ⟨b, o, rfl, hblt, z0, z1, z2⟩ := hr9 mm.length z (by simp)
              obtain ⟨b', hb', hfz⟩ := hfl _ rfl
              cases hb'
              have hfz1 : wr.frozen? ⟨b, mm.length * 3 + 1, none⟩ = false := hfz _
              have Hset : Hid (∀ W : World, OwnE W w1.heap.size (.slice (some ⟨b, 0, none⟩) (mm ++ [z]).length c9) (mm ++ [z]) → OwnE (W.setCell ⟨b, mm.length * 3 + 1, none⟩ (.string y)) w1.heap.size (.slice (some ⟨b, 0, none⟩) (mm ++ [z]).length c9) (mm ++ [(z.1, y, z.2.2)])) := fun W q => by
                have := q.setHi (i := mm.length) (p := z) (by simp) y
                rwa [join_set] at this
              have hbb : Hid (w1.heap.size ≤ b) := hge _ _ rfl
              obtain ⟨kk, hkk⟩ : ∃ kk, kk = mm.length := ⟨_, rfl⟩
              obtain ⟨nn, hnn⟩ : ∃ nn, nn = (mm ++ [z]).length := ⟨_, rfl⟩
              have hnk : nn = kk + 1 := by rw [hnn, hkk]; simp
              have HH : Hid (OwnE wr w1.heap.size (.slice (some ⟨b, 0, none⟩) nn c9) (mm ++ [z])) := by
                show OwnE _ _ _ _
                rw [hnn]
                exact ho
              have Hle : Hid ((mm ++ [z]).length + [(x, y, s)].length ≤ 1099511627776) := by show _ ≤ _; rw [List.length_singleton]; omega
              have hnn9 : (nn : Int) ≤ 2000000 := by rw [hnn]; omega
              rw [← hkk] at z0 z1 z2 hfz1 Hset
              rw [← hnn] at Hset ⊢
              rw [Nat.zero_add] at z0 z1 z2
              have hwr : IntKind.i64.wrap ((nn : Int) - 1) = (kk : Int) := by rw [IntKind.wrap_i64]; omega
              have hge0 : (kk : Int) ≥ 0 := by omega
              have hlt0 : (kk : Int) < (nn : Int) := by omega
              have hgt0 : (nn : Int) > 0 := by omega
              have hgt1 : (0 : Int) < (nn : Int) := by omega
              have hgt2 : 0 < nn := by omega
              have Hst : Hid (∀ W : World, Below wr.heap.size wr W → OwnE (W.alloc (.cells #[.string x, .string y, .int .u64 (s : Int)] 32)) w1.heap.size (.slice (some ⟨b, 0, none⟩) nn c9) (mm ++ [z]) ∧ Below w1.heap.size w1 (W.alloc (.cells #[.string x, .string y, .int .u64 (s : Int)] 32)) ∧ w1.heap.size ≤ (W.alloc (.cells #[.string x, .string y, .int .u64 (s : Int)] 32)).heap.size) := fun W q => by
                have q2 : Below wr.heap.size wr (W.alloc (.cells #[.string x, .string y, .int .u64 (s : Int)] 32)) := q.alloc q.size _
                exact ⟨HH.out.below q2, Hwb.out.trans (q2.mono Hwb.out.size), Nat.le_trans Hwb.out.size q2.size⟩
              have He : Hid (∀ W : World, RE (W.alloc (.cells #[.string x, .string y, .int .u64 (s : Int)] 32)) (W.heap.size + 1) (some ⟨W.heap.size, 0, none⟩) [(x, y, s)]) := fun W => RE.one W (x, y, s)
              have Hln : Hid ((mm ++ [z] ++ [(x, y, s)] : List Ec).length = nn + 1) := by show _ = _; rw [List.length_append, ← hnn]; rfl
              clear hnn hkk hnk
              by_cases hq : z.2.1 = x ∧ z.2.2 = s
              · have q1 : (z.2.1.toList == x.toList) = true := by rw [hq.1]; simp
                have q2 : ((z.2.2 : Int) == (s : Int)) = true := by rw [hq.2]; simp
                have Hjn : Hid (joinE (mm ++ [z]) (x, y, s) = mm ++ [(z.1, y, z.2.2)]) := by
                  show _ = _
                  rw [join_snoc, if_pos hq]
                clear hq hkn hwq hwb Ht ho hst hin hr9 hge hfl hfz h0 He Hst Hle
                go_wp2_with fail
                go_quiet (fail)
                go_wp2_with fail
                have H6 : Hid (OwnE ((wr.drewN nq).setCell ⟨b, kk * 3 + 1, none⟩ (.string y)) w1.heap.size (.slice (some ⟨b, 0, none⟩) nn c9) (joinE (mm ++ [z]) (x, y, s)) ∧ Below w1.heap.size w1 ((wr.drewN nq).setCell ⟨b, kk * 3 + 1, none⟩ (.string y))) := by
                  refine ⟨by rw [Hjn.out]; exact Hset.out (wr.drewN nq) HH.out, ?_⟩
                  have q := below_dr Hwb.out nq
                  exact ⟨q.os, q.tape, q.output, by simpa using q.size, fun k hk => (Below.heap_setCell _ _ _ _ (fun e => by have e2 : k = b := e; have := hbb.out; omega)).trans (q.block k hk)⟩
                go_roundw
                case rel => exact ⟨i + 1, _, by go_num, rfl, by have := Hxy.out.2.2; omega, _, H6.out.1, Hj.out, H6.out.2⟩
                case measure => have := Hxy.out.2.2; simp [intOf]; omega
              · have Hjn : Hid (joinE (mm ++ [z]) (x, y, s) = (mm ++ [z]) ++ [(x, y, s)]) := by
                  show _ = _
                  rw [join_snoc, if_neg hq]
                have hqq : (z.2.1.toList == x.toList) = false ∨ ((z.2.1.toList == x.toList) = true ∧ ((z.2.2 : Int) == (s : Int)) = false) := by
                  by_cases q1 : z.2.1.toList = x.toList
                  · right
                    refine ⟨by rw [q1]; simp, ?_⟩
                    rw [beq_eq_false_iff_ne]
                    intro q2
                    exact hq ⟨array_inj q1, by omega⟩
                  · left
                    rw [beq_eq_false_iff_ne]
                    exact q1
                clear hq hkn hwq hwb Ht ho hst hin hr9 hge hfl hfz h0 Hset
                rcases hqq with q1 | ⟨q1, q2⟩
                all_goals
                  go_wp2_with fail
                  go_quiet (fail)
                  go_wp2_with fail
                  obtain ⟨wd, hwd⟩ : ∃ wd, wd = wr.drewN nq := ⟨_, rfl⟩
                  have px2 : wd.cell? ⟨bb, bo + i, none⟩ = some (.string x) := by rw [hwd]; exact px1
                  have py2 : wd.cell? ⟨bb, bo + (i + 1), none⟩ = some (.string y) := by rw [hwd]; exact py1
                  have Hwd : Hid (Below wr.heap.size wr wd) := by rw [hwd]; exact below_dr (Below.refl _ _) nq
                  rw [← hwd]
                  clear hwd px1 py1
                  have dx2 : wd.drew.cell? ⟨bb, bo + i, none⟩ = some (.string x) := px2
                  have dy2 : wd.drew.cell? ⟨bb, bo + (i + 1), none⟩ = some (.string y) := py2
                  obtain ⟨Y, hY⟩ : ∃ Y, Y = wd.alloc (.cells #[.string x, .string y, .int .u64 (s : Int)] 32) := ⟨_, rfl⟩
                  have H9 : Hid (∀ X, (X = Y ∨ X = Y.drew) → OwnE X w1.heap.size (.slice (some ⟨b, 0, none⟩) nn c9) (mm ++ [z]) ∧ RE X (wd.heap.size + 1) (some ⟨wd.heap.size, 0, none⟩) [(x, y, s)] ∧ w1.heap.size ≤ X.heap.size ∧ Below w1.heap.size w1 X) := fun X hX => by
                    have q := Hst.out wd Hwd.out
                    have q2 := He.out wd
                    rw [← hY] at q q2
                    rcases hX with rfl | rfl
                    · exact ⟨q.1, q2, q.2.2, q.2.1⟩
                    · exact ⟨q.1, q2, q.2.2, q.2.1.drew⟩
                  rw [hY] at H9
                  have Hl6 : Hid (((mm ++ [z]) ++ [(x, y, s)] : List Ec).length = nn + 1) := Hln.out
                  clear hY Hst He Hwd
                  go_region_law (first | (go_must (refine step_app_elisions (es := (mm ++ [z])) (fs := [(x, y, s)]) (by rfl) (.tmp 101) (.tmp 113) (by rfl) (by rfl) (H9.out _ (by first | exact .inl (by with_reducible rfl) | exact .inr (by with_reducible rfl))).1 1 1 (by rfl) rfl (H9.out _ (by first | exact .inl (by with_reducible rfl) | exact .inr (by with_reducible rfl))).2.1 Hle.out (H9.out _ (by first | exact .inl (by with_reducible rfl) | exact .inr (by with_reducible rfl))).2.2.1 ?_); intro v6 w6 r6 g6 _; have k6 : Below w1.heap.size w1 w6 := (H9.out _ (by first | exact .inl (by with_reducible rfl) | exact .inr (by with_reducible rfl))).2.2.2.grown g6 (H9.out _ (by first | exact .inl (by with_reducible rfl) | exact .inr (by with_reducible rfl))).2.2.1 fun k hk => ((H9.out _ (by first | exact .inl (by with_reducible rfl) | exact .inr (by with_reducible rfl))).1.ge k hk).1; obtain ⟨A6, n6, e6, -⟩ := r6.rd; rw [Hl6.out] at e6; subst e6; have H6 : Hid (OwnE w6 w1.heap.size (.slice A6 (nn + 1) n6) (joinE (mm ++ [z]) (x, y, s)) ∧ Below w1.heap.size w1 w6) := ⟨by rw [Hjn.out]; exact r6, k6⟩; clear r6 g6 k6))
                  all_goals
                    go_wp2_with fail
                    go_roundw
                    case rel => exact ⟨i + 1, .slice A6 (nn + 1) n6, by go_num, rfl, by have := Hxy.out.2.2; omega, _, H6.out.1, Hj.out, H6.out.2⟩
                    case measure => have := Hxy.out.2.2; simp [intOf]; omega
    · have Hf : Hid (OwnE wr w.heap.size v' out ∧ ListP l out ∧ Below w.heap.size w wr) := ⟨hst.out.1.wideB H1.out.2.size, hst.out.2.1.done HBp.out (by rw [← Hm.out]; exact hlt), H1.out.2.trans (hst.out.2.2.mono H1.out.2.size)⟩
      have hlt' : ¬ (i : Int) + 1 < (m : Int) := by omega
      obtain ⟨A9, c9, rfl, -⟩ := hst.out.1.rd
      clear hst hlt
      go_wp2_with fail
      go_ret
      exact ⟨_, rfl, out, Hf.out⟩
end
end Go.Proofs.Ytghcfmkmndldoaa

/-
  The second saying's Over.
-/
namespace Go.Proofs.Ytghcfmkmndldoaa
open Go.RowKit Go.Sort Go.Lib

def ovB (lo hi : ByteArray) (e : Ec) : Bool := Op.bytesLess lo.toList hi.toList && Op.bytesLess e.1.toList hi.toList && Op.bytesLess lo.toList e.2.1.toList
theorem filt_take {p : Ec → Bool} {l : List Ec} {i : Nat} {e : Ec} (he : l[i]? = some e) : (l.take (i + 1)).filter p = (l.take i).filter p ++ if p e = true then [e] else [] := by
  rw [List.take_add_one, he, List.filter_append]
  congr 1
  simp only [Option.toList]
  by_cases h : p e = true
  · rw [if_pos h, List.filter_cons_of_pos h]; rfl
  · rw [if_neg h, List.filter_cons_of_neg h]; rfl
section
set_option maxRecDepth 100000
set_option maxHeartbeats 8000000
theorem rover_any (base g : Nat) (v : Value) (l : List Ec) (lo hi : ByteArray) (w : World) (h : RefSet w base g v l) :
    Calls Try.prog 25 #[.pointer (some ⟨g, 0, none⟩), .string lo, .string hi] w fun r w' => ∃ v' ls, r = .returned v' ∧ OwnE w' w.heap.size v' (ls.filter (ovB lo hi)) ∧ ListP l ls ∧ Below w.heap.size w w' := by
  have HL := Lib.hid (rlist_any base g v l w h)
  have hl9 := h.len
  clear h
  go_enter Try.func25, Try.ntmps25
  go_wp2_with fail
  refine HL.out.mono ?_
  rintro r w1 ⟨v1, ls, rfl, ho, hp, hb⟩
  obtain ⟨A, c, rfl, hc, -, hr, -⟩ := ho.rd
  have H1 : Hid (RE w1 w1.heap.size A ls ∧ ListP l ls ∧ Below w.heap.size w w1) := ⟨hr, hp, hb⟩
  have Hlen : Hid (∀ k : Nat, k < ls.length → ∃ u, ls[k]? = some u) := fun k hk => ⟨_, List.getElem?_eq_getElem hk⟩
  have hn9 : ls.length ≤ 2000000 := by have := hp.len; omega
  obtain ⟨n, hn⟩ : ∃ n, n = ls.length := ⟨_, rfl⟩
  rw [← hn] at Hlen hn9 ⊢
  have Hn := Lib.hid hn
  have hl' : (n : Int) ≤ 2000000 := by omega
  clear ho hp hb hr hc HL hn
  go_wp2_with fail
  go_loopw [7, 9] (fun ov iv wr => ∃ (i : Nat) (v' : Value), iv = .int .i64 (i : Int) ∧ ov = v' ∧ i ≤ n ∧ Hid (OwnE wr w1.heap.size v' ((ls.take i).filter (ovB lo hi)) ∧ Below w1.heap.size w1 wr)) (fun _ iv _ => n - (intOf iv).toNat)
  case atStart => exact ⟨0, _, rfl, rfl, Nat.zero_le _, OwnE.nil _ _, Below.refl _ _⟩
  case round =>
    obtain ⟨i, v', rfl, ev, hi9, hst⟩ := hrel
    obtain rfl := ev.symm
    by_cases hlt : i < n
    · obtain ⟨e, he⟩ := Hlen.out i hlt
      obtain ⟨b, o, rfl, _, x0, x1, x2⟩ := (H1.out.1.now hst.out.2) i e he
      have hlt' : (i : Int) < (n : Int) := by omega
      have He : Hid (ls[i]? = some e ∧ i < n) := ⟨he, hlt⟩
      by_cases hq : ovB lo hi e = true
      · have hq' := hq
        unfold ovB at hq'
        simp only [Bool.and_eq_true] at hq'
        obtain ⟨⟨q1, q2⟩, q3⟩ := hq'
        have Hf : Hid ((ls.take (i + 1)).filter (ovB lo hi) = (ls.take i).filter (ovB lo hi) ++ [e]) := by
          show _ = _
          rw [filt_take he, if_pos hq]
        have Hl : Hid (((ls.take i).filter (ovB lo hi)).length + [e].length ≤ 1099511627776) := by
          show _ ≤ _
          have := List.length_filter_le (ovB lo hi) (ls.take i)
          have := List.length_take_le i ls
          simp
          omega
        have HH : Hid (∀ W, Below wr.heap.size wr W → OwnE W w1.heap.size v' ((ls.take i).filter (ovB lo hi)) ∧ w1.heap.size ≤ W.heap.size ∧ Below w1.heap.size w1 W) := fun W q => ⟨hst.out.1.below q, Nat.le_trans hst.out.2.size q.size, hst.out.2.trans (q.mono hst.out.2.size)⟩
        have H9 := Lib.hid (HH.out (wr.alloc (.cells #[.string e.1, .string e.2.1, .int .u64 (e.2.2 : Int)] 32)) ((Below.refl _ _).alloc (Nat.le_refl _) _))
        have Hr := Lib.hid (RE.one wr e)
        clear he hlt hq hst HH
        go_wp2_with (at_builtin; refine app_elisions (fs := [e]) rfl (.tmp 39) (.tmp 44) rfl rfl H9.out.1 1 1 rfl rfl Hr.out Hl.out H9.out.2.1 ?_; intro v6 w6 r6 g6 _; have H6 : Hid (OwnE w6 w1.heap.size v6 ((ls.take (i + 1)).filter (ovB lo hi)) ∧ Below w1.heap.size w1 w6) := ⟨by rw [Hf.out]; exact r6, H9.out.2.2.grown g6 H9.out.2.1 fun k hk => (H9.out.1.ge k hk).1⟩; clear r6 g6)
        go_roundw
        case rel => exact ⟨i + 1, v6, by go_num, rfl, by have := He.out.2; omega, H6.out⟩
        case measure => have := He.out.2; simp [intOf]; omega
      · have Hf : Hid ((ls.take (i + 1)).filter (ovB lo hi) = (ls.take i).filter (ovB lo hi)) := by
          show _ = _
          rw [filt_take he, if_neg hq, List.append_nil]
        have hqq : Op.bytesLess lo.toList hi.toList = false ∨ (Op.bytesLess lo.toList hi.toList = true ∧ Op.bytesLess e.1.toList hi.toList = false) ∨ (Op.bytesLess lo.toList hi.toList = true ∧ Op.bytesLess e.1.toList hi.toList = true ∧ Op.bytesLess lo.toList e.2.1.toList = false) := by
          unfold ovB at hq
          revert hq
          cases Op.bytesLess lo.toList hi.toList <;> cases Op.bytesLess e.1.toList hi.toList <;> cases Op.bytesLess lo.toList e.2.1.toList <;> simp
        clear he hlt hq
        rcases hqq with q1 | ⟨q1, q2⟩ | ⟨q1, q2, q3⟩
        all_goals
          go_wp2_with fail
          go_roundw
          case rel => exact ⟨i + 1, v', by go_num, rfl, by have := He.out.2; omega, by rw [Hf.out]; exact hst.out.1, hst.out.2⟩
          case measure => have := He.out.2; simp [intOf]; omega
    · obtain rfl : i = n := by omega
      have Hf : Hid (OwnE wr w.heap.size v' (ls.filter (ovB lo hi)) ∧ ListP l ls ∧ Below w.heap.size w wr) := by
        have q := hst.out.1
        rw [List.take_of_length_le (by have := Hn.out; omega)] at q
        exact ⟨q.wideB H1.out.2.2.size, H1.out.2.1, H1.out.2.2.trans (hst.out.2.mono H1.out.2.2.size)⟩
      obtain ⟨A9, c9, rfl, -⟩ := Hf.out.1.rd
      clear hst hlt
      go_wp2_with fail
      go_ret
      first | exact ⟨_, rfl, ls, Hf.out⟩ | exact ⟨_, ls, rfl, Hf.out⟩
end
end Go.Proofs.Ytghcfmkmndldoaa

/-
  The second saying's Add.
-/
namespace Go.Proofs.Ytghcfmkmndldoaa
open Go.RowKit Go.Sort Go.Lib

theorem OwnE.notSet {w : World} {base g : Nat} {v u : Value} {es : List Ec} (h : OwnE w base v es) (hc : Cells w g 29 [u]) : v.ownBlock ≠ some g := fun e => by
  rcases h.2 with ⟨e1, _⟩ | ⟨b, cap, cur, e1, _, hh, _⟩
  · rw [e1] at e; cases e
  · rw [e1] at e
    cases e
    unfold Cells at hc
    rw [hh] at hc
    cases hc
section
set_option maxRecDepth 100000
set_option maxHeartbeats 8000000
theorem radd_any (e : Ec) (base g : Nat) (v : Value) (l : List Ec) (w : World) (h : RefSet w base g v l) (hb : base ≤ w.heap.size) (hl : l.length < 1000000) :
    Calls Try.prog 9 #[.pointer (some ⟨g, 0, none⟩), eV e] w fun r w' => r = .returned (.int .i64 (chkE e)) ∧
      ((chkE e = 0 ∧ ∃ v', RefSet w' base g v' (l ++ [e]) ∧ (v'.ownBlock = v.ownBlock ∨ ∀ b, v'.ownBlock = some b → w.heap.size ≤ b)) ∨ (chkE e = 1 ∧ RefSet w' base g v l)) ∧ Kept (fun k => k ≠ g ∧ v.ownBlock ≠ some k) w w' := by
  obtain ⟨W1, hW1⟩ : ∃ W1, W1 = w.alloc (.cells #[.string e.1, .string e.2.1, .int .u64 (e.2.2 : Int)] 32) := ⟨_, rfl⟩
  have hb1 : Below w.heap.size w W1 := by rw [hW1]; exact (Below.refl _ _).alloc (Nat.le_refl _) _
  have hC1 : Cells W1 w.heap.size 32 (cellE e) := by rw [hW1]; exact Cells.new w _ _
  have HCk := Lib.hid (rcheck_any e W1)
  have H0 : Hid (RefSet w base g v l ∧ base ≤ w.heap.size ∧ l.length < 1000000 ∧ Below w.heap.size w W1 ∧ Cells W1 w.heap.size 32 (cellE e)) := ⟨h, hb, hl, hb1, hC1⟩
  have e0 := hC1.cell (i := 0) rfl
  have e1 := hC1.cell (i := 1) rfl
  have e2 := hC1.cell (i := 2) rfl
  have hce : chkE e = 0 ∨ chkE e = 1 := by unfold chkE; split <;> simp
  unfold eV at HCk ⊢
  clear h hb hl hb1 hC1
  rw [hW1] at e0 e1 e2
  go_enter Try.func9, Try.ntmps9
  go_wp2_with fail
  rw [← hW1]
  clear hW1 e0 e1 e2
  refine HCk.out.mono ?_
  rintro r w2 ⟨rfl, hb2⟩
  have hbw2 : Below w.heap.size w w2 := H0.out.2.2.2.1.trans (hb2.mono H0.out.2.2.2.1.size)
  have hC2 := H0.out.2.2.2.2.move (hb2.block _ H0.out.2.2.2.2.lt)
  have hR2 := H0.out.1.below hbw2
  have H2 : Hid (Below w.heap.size w w2 ∧ RefSet w2 base g v l) := ⟨hbw2, hR2⟩
  have e0 := hC2.cell (i := 0) rfl
  have e1 := hC2.cell (i := 1) rfl
  have e2 := hC2.cell (i := 2) rfl
  have g0 := hR2.cell.cell (i := 0) rfl
  have d0 : w2.drew.cell? ⟨w.heap.size, 0, none⟩ = some (.string e.1) := e0
  have d1 : w2.drew.cell? ⟨w.heap.size, 1, none⟩ = some (.string e.2.1) := e1
  have d2 : w2.drew.cell? ⟨w.heap.size, 2, none⟩ = some (.int .u64 (e.2.2 : Int)) := e2
  have d3 : w2.drew.cell? ⟨g, 0, none⟩ = some v := g0
  clear hb2 hbw2 hC2 hR2 HCk
  rcases hce with hce | hce
  · have Hce := Lib.hid hce
    rw [hce]
    clear hce
    obtain ⟨Y, hY⟩ : ∃ Y, Y = w2.alloc (.cells #[.string e.1, .string e.2.1, .int .u64 (e.2.2 : Int)] 32) := ⟨_, rfl⟩
    have hYb : Below w2.heap.size w2 Y := by rw [hY]; exact (Below.refl _ _).alloc (Nat.le_refl _) _
    have hYr : RE Y (w2.heap.size + 1) (some ⟨w2.heap.size, 0, none⟩) [e] := by rw [hY]; exact RE.one w2 e
    have hYw : Below w.heap.size w Y := H2.out.1.trans (hYb.mono H2.out.1.size)
    have hYs := H2.out.2.below hYb
    have Hst : Hid (∀ X, (X = Y ∨ X = Y.drew) → OwnE X base v l ∧ RE X (w2.heap.size + 1) (some ⟨w2.heap.size, 0, none⟩) [e] ∧ base ≤ X.heap.size) := fun X hX => by
      have hs := hYw.size
      have h9 := H0.out.2.1
      rcases hX with rfl | rfl
      · exact ⟨hYs.own, hYr, by omega⟩
      · exact ⟨hYs.own, hYr, by show base ≤ Y.heap.size; omega⟩
    have Haft : Hid (∀ X v6 w6, (X = Y ∨ X = Y.drew) → OwnE w6 base v6 (l ++ [e]) → X.grownBy w6 v.ownBlock → (v6.ownBlock = v.ownBlock ∨ v6.ownBlock = some X.heap.size) →
        Cells w6 g 29 [v] ∧ Hid (RefSet (w6.setCell ⟨g, 0, none⟩ v6) base g v6 (l ++ [e]) ∧ (v6.ownBlock = v.ownBlock ∨ ∀ b, v6.ownBlock = some b → w.heap.size ≤ b) ∧ Kept (fun k => k ≠ g ∧ v.ownBlock ≠ some k) w (w6.setCell ⟨g, 0, none⟩ v6))) := fun X v6 w6 hX r6 g6 h6 => by
      have hcX : Cells X g 29 [v] := by
        rcases hX with rfl | rfl
        · exact hYs.cell
        · exact hYs.cell
      have hXw : Below w.heap.size w X := by
        rcases hX with rfl | rfl
        · exact hYw
        · exact hYw.drew
      have hc6 : Cells w6 g 29 [v] := hcX.move (g6.block _ hcX.lt (fun q => hYs.own.notSet hYs.cell q.symm))
      refine ⟨hc6, ⟨hc6.set 0 v6, r6.move fun b hb => Below.heap_setCell _ _ _ _ (fun q => r6.notSet hc6 (by rw [hb]; exact congrArg some q)), by have := H0.out.2.2.1; simp; omega⟩, ?_, ?_⟩
      · rcases h6 with q | q
        · exact .inl q
        · right
          intro b hb
          rw [q] at hb
          cases hb
          exact hXw.size
      · have k1 : Kept (fun k => k ≠ g ∧ v.ownBlock ≠ some k) w X := ⟨hXw.os, hXw.tape, hXw.output, hXw.size, fun b hb _ => hXw.block b hb⟩
        exact (k1.grown g6 fun b hb q => q.2 hb).setCell (p := ⟨g, 0, none⟩) (fun q => q.1 rfl) _
    have d4 : Y.cell? ⟨g, 0, none⟩ = some v := hYs.cell.cell (i := 0) rfl
    rw [hY] at Hst Haft d4
    clear hY hYb hYr hYw hYs
    have Hlen : Hid (l.length + 1 ≤ 1099511627776) := by show _ ≤ _; have := H0.out.2.2.1; omega
    clear H2 H0
    go_upto_region 3 with fail
    go_region_law (first | (go_must (refine step_app_elisions (fs := [e]) (by rfl) (.tmp 12) (.tmp 14) (by rfl) (by rfl) (Hst.out _ (by first | exact .inl (by with_reducible rfl) | exact .inr (by with_reducible rfl))).1 1 1 (by rfl) rfl (Hst.out _ (by first | exact .inl (by with_reducible rfl) | exact .inr (by with_reducible rfl))).2.1 Hlen.out (Hst.out _ (by first | exact .inl (by with_reducible rfl) | exact .inr (by with_reducible rfl))).2.2 ?_); intro v6 w6 r6 g6 h6; obtain ⟨A6, n6, e6, _⟩ := r6.rd; rw [show (l ++ [e]).length = l.length + 1 by simp] at e6; subst e6; obtain ⟨c6, H6⟩ := Haft.out _ _ w6 (by first | exact .inl (by with_reducible rfl) | exact .inr (by with_reducible rfl)) r6 g6 h6; have x6 := c6.cell (i := 0) rfl; have z6 := c6.frozen 0; clear r6 g6 h6 c6))
    all_goals
      go_wp2_with fail
      go_ret
      exact ⟨by rw [Hce.out]; rfl, .inl ⟨Hce.out, _, H6.out.1, H6.out.2.1⟩, H6.out.2.2⟩
  · have Hce := Lib.hid hce
    rw [hce]
    clear hce
    have Hf : Hid (RefSet w2 base g v l ∧ Kept (fun k => k ≠ g ∧ v.ownBlock ≠ some k) w w2) := ⟨H2.out.2, H2.out.1.os, H2.out.1.tape, H2.out.1.output, H2.out.1.size, fun b hb _ => H2.out.1.block b hb⟩
    clear H0 H2 d0 d1 d2 d3
    go_wp2_with fail
    go_ret
    exact ⟨by rw [Hce.out]; rfl, .inr ⟨Hce.out, Hf.out.1⟩, Hf.out.2⟩
end
end Go.Proofs.Ytghcfmkmndldoaa
