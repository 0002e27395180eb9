/-
  Has, List, New.
-/
import Derived.Test.YtghcfmkmndldoaaEl11
namespace Go.Proofs.Ytghcfmkmndldoaa
open Go.RowKit Go.Sort Go.Lib

theorem drop_cnt {k : ByteArray} : ∀ (l : List Ec) (c : Nat), CntP l (fun x => leB x.2.1 k) c → dropE k l = l.drop c
  | [], c, _ => by simp [dropE]
  | a :: l, 0, h => by
    have h1 := (h.2 0 a rfl)
    have h2 : ¬ leB a.2.1 k = true := fun q => by have := h1.1 q; omega
    rw [dropE, if_pos ?_]
    · rfl
    · have h3 := fun q => h2 (leB_iff.2 q)
      rcases ke_or a.2.1 k with q | q
      · exact absurd q h3
      · exact q
  | a :: l, c + 1, h => by
    have h1 := (h.2 0 a rfl).2 (by omega)
    have h2 : ¬ Op.bytesLess k.toList a.2.1.toList = true := ke_iff.1 (leB_iff.1 h1)
    rw [dropE, if_neg h2, List.drop_succ_cons]
    exact drop_cnt l c ⟨by have := h.1; simp at this; omega, fun i x hx => by rw [h.2 (i + 1) x (by simpa using hx)]; omega⟩
theorem top_cnt {l : List Ec} {k : ByteArray} {c : Nat} (hp : PlainE l) (h : CntP l (fun x => leB x.2.1 k) c) :
    (∀ x, l[c]? = some x → topE l k = if leB x.1 k = true then x.2.2 + 1 else 0) ∧ (l[c]? = none → topE l k = 0) := by
  have hd := drop_cnt l c h
  have ht := drop_top (l := l) (ke_refl k)
  have h9 : (l.drop c)[0]? = l[c]? := by rw [List.getElem?_drop, Nat.add_zero]
  cases hdd : l.drop c with
  | nil =>
    rw [hd, hdd] at ht
    rw [hdd] at h9
    refine ⟨fun x hx => ?_, fun _ => by rw [← ht]; rfl⟩
    rw [hx] at h9
    cases h9
  | cons y r =>
    rw [hd, hdd] at ht
    rw [hdd] at h9
    refine ⟨fun x hx => ?_, fun hx => by rw [hx] at h9; cases h9⟩
    rw [hx] at h9
    have e : y = x := by simpa using h9
    subst e
    have hpr : PlainE (y :: r) := hdd ▸ hp.sub (List.drop_sublist _ _)
    have hhi := drop_head (hd.trans hdd)
    rw [← ht]
    by_cases q : leB y.1 k = true
    · rw [if_pos q, top_in hpr (covE_iff.2 ⟨leB_iff.1 q, hhi⟩)]
    · rw [if_neg q, top_low hpr]
      rcases ke_or y.1 k with q2 | q2
      · exact absurd (leB_iff.2 q2) q
      · exact q2
theorem plain_rise {l : List Ec} (h : PlainE l) {i j : Nat} {x y : Ec} (hi : l[i]? = some x) (hj : l[j]? = some y) (hij : i < j) : ke x.2.1 y.1 := by
  obtain ⟨h1, h2⟩ := List.getElem?_eq_some_iff.1 hi
  obtain ⟨h3, h4⟩ := List.getElem?_eq_some_iff.1 hj
  have := List.pairwise_iff_getElem.1 h.sep i j h1 h3 hij
  rw [h2, h4] at this
  exact this.1
theorem mono_hi {l : List Ec} (h : PlainE l) (k : ByteArray) : MonoE l (fun x => leB x.2.1 k) := fun i j x y hij hx hy hq => by
  rcases Nat.lt_or_ge i j with q | q
  · have h1 := plain_rise h hx hy q
    have h2 := h.ok y (List.mem_of_getElem? hy)
    exact leB_iff.2 (ke_trans h1 (ke_trans h2.ke (leB_iff.1 hq)))
  · obtain rfl : i = j := by omega
    rw [hx] at hy
    cases hy
    exact hq
def okAll (es : List Ec) : Bool := es.all fun e => Op.bytesLess e.1.toList e.2.1.toList
theorem okAll_iff {es : List Ec} : okAll es = true ↔ ∀ e ∈ es, kl e.1 e.2.1 := by unfold okAll kl; simp
section
set_option maxRecDepth 100000
set_option maxHeartbeats 8000000
theorem has_any (g base : Nat) (l : List Ec) (k : ByteArray) (s : Nat) (w : World) (h : SetAt w base g l) :
    Calls Try.prog 20 #[.pointer (some ⟨g, 0, none⟩), .string k, .int .u64 (s : Int)] w fun r w' => r = .returned (.bool (decide (s < topE l k))) ∧ Below w.heap.size w w' := by
  have hb1 : Below w.heap.size w (w.alloc (.cells #[.string k] 9)) := (Below.refl _ _).alloc (Nat.le_refl _) _
  have hk := Cells.new w #[.string k] 9
  have HC := Lib.hid (hasP_cnt k w.heap.size g base l _ (h.below hb1) (mono_hi h.plain k) hk)
  have H0 : Hid (Below w.heap.size w (w.alloc (.cells #[.string k] 9)) ∧ SetAt (w.alloc (.cells #[.string k] 9)) base g l ∧ Cells (w.alloc (.cells #[.string k] 9)) w.heap.size 9 [.string k]) := ⟨hb1, h.below hb1, hk⟩
  have Hd : Hid (∀ c, CntP l (fun x => leB x.2.1 k) c → (∀ x, l[c]? = some x → topE l k = if leB x.1 k = true then x.2.2 + 1 else 0) ∧ (l[c]? = none → topE l k = 0)) := fun c hc => top_cnt h.plain hc
  generalize topE l k = t at *
  obtain ⟨dv, hdv⟩ : ∃ dv, dv = decide (s < t) := ⟨_, rfl⟩
  rw [← hdv]
  have Hdv := Lib.hid hdv
  clear hb1 hk h hdv
  go_enter Try.func20, Try.ntmps20
  go_wp2_with fail
  refine HC.out.mono ?_
  rintro r w2 ⟨c, rfl, hcp, hb2⟩
  obtain ⟨v, hg, ho⟩ := (H0.out.2.1.below hb2).cell
  obtain ⟨A, cc, rfl, hlc, _, hr, _⟩ := ho.rd
  have k0 := (H0.out.2.2.move (hb2.block _ H0.out.2.2.lt)).cell (i := 0) rfl
  have g0 := hg.cell (i := 0) rfl
  have Hb : Hid (Below w.heap.size w w2) := H0.out.1.trans (hb2.mono H0.out.1.size)
  have Ht := Lib.hid (Hd.out c hcp)
  have hcl : c ≤ l.length := hcp.1
  obtain ⟨n, hn⟩ : ∃ n, n = l.length := ⟨_, rfl⟩
  rw [← hn] at g0 hcl
  have hn9 : (n : Int) ≤ 1099511627776 := by have := H0.out.2.1.len; omega
  rcases Nat.lt_or_ge c n with hcn | hcn
  · obtain ⟨x, hx⟩ : ∃ x, l[c]? = some x := ⟨_, List.getElem?_eq_getElem (by omega)⟩
    obtain ⟨b, o, rfl, _, x0, x1, x2⟩ := hr c x hx
    have ht := Ht.out.1 x hx
    have hc1 : (c : Int) < (n : Int) := by omega
    clear HC H0 Hd hcp hb2 hg ho hlc hr hcl hn hcn Ht hx
    by_cases hq : leB x.1 k = true
    · rw [if_pos hq] at ht
      by_cases hs : s ≤ x.2.2
      · have hd : decide (s < t) = true := by rw [ht]; exact decide_eq_true (by omega)
        obtain rfl : dv = true := by rw [Hdv.out]; exact hd
        have hs' : (x.2.2 : Int) ≥ (s : Int) := by omega
        rcases less_total x.1.toList k.toList with q | q | q
        · clear ht hd hq hs
          go_upto_region 2 with fail
          go_quiet (fail)
          go_wp2_with fail
          go_ret
          exact ⟨rfl, below_dr Hb.out nq⟩
        · have q1 : Op.bytesLess x.1.toList k.toList = false := by rw [q]; exact less_irrefl _
          have q2 : (x.1.toList == k.toList) = true := by rw [q]; simp
          clear ht hd hq hs q
          go_upto_region 2 with fail
          go_quiet (fail)
          go_wp2_with fail
          go_ret
          exact ⟨rfl, below_dr Hb.out nq⟩
        · rw [leB, q] at hq; cases hq
      · have hd : decide (s < t) = false := by rw [ht]; exact decide_eq_false (by omega)
        obtain rfl : dv = false := by rw [Hdv.out]; exact hd
        have hs2 : decide (s ≤ x.2.2) = false := decide_eq_false hs
        rcases less_total x.1.toList k.toList with q | q | q
        · clear ht hd hq hs
          go_upto_region 2 with fail
          go_quiet (fail)
          go_wp2_with fail
          go_ret
          exact ⟨rfl, below_dr Hb.out nq⟩
        · have q1 : Op.bytesLess x.1.toList k.toList = false := by rw [q]; exact less_irrefl _
          have q2 : (x.1.toList == k.toList) = true := by rw [q]; simp
          clear ht hd hq hs q
          go_upto_region 2 with fail
          go_quiet (fail)
          go_wp2_with fail
          go_ret
          exact ⟨rfl, below_dr Hb.out nq⟩
        · rw [leB, q] at hq; cases hq
    · rw [if_neg hq] at ht
      have hd : decide (s < t) = false := by rw [ht]; rfl
      obtain rfl : dv = false := by rw [Hdv.out]; exact hd
      have q := leB_form x.1 k
      rw [Bool.not_eq_true] at hq
      rw [hq, Bool.or_eq_false_iff] at q
      obtain ⟨q1, q2⟩ := q
      clear ht hd hq
      go_upto_region 2 with fail
      go_quiet (fail)
      go_wp2_with fail
      go_ret
      exact ⟨rfl, below_dr Hb.out nq⟩
  · have hc1 : decide (c < n) = false := decide_eq_false (by omega)
    have ht := Ht.out.2 (List.getElem?_eq_none (by omega))
    have hd : decide (s < t) = false := by rw [ht]; rfl
    obtain rfl : dv = false := by rw [Hdv.out]; exact hd
    clear HC H0 Hd hcp hb2 hg ho hlc hr hcl hn hcn Ht ht hd
    go_upto_region 2 with fail
    go_quiet (fail)
    go_wp2_with fail
    go_ret
    exact ⟨rfl, below_dr Hb.out nq⟩
theorem list_any (g base : Nat) (l : List Ec) (w : World) (h : SetAt w base g l) :
    Calls Try.prog 17 #[.pointer (some ⟨g, 0, none⟩)] w fun r w' => ∃ v, r = .returned v ∧ OwnE w' w.heap.size v l ∧ Below w.heap.size w w' := by
  obtain ⟨v, hg, ho⟩ := h.cell
  obtain ⟨A, c, rfl, _, _, hr, _⟩ := ho.rd
  have g0 := hg.cell (i := 0) rfl
  have HC := Lib.hid (cloneE_any A c l w hr (by have := h.len; omega))
  clear h hg ho hr
  go_enter Try.func17, Try.ntmps17
  go_wp2_with fail
  refine HC.out.mono ?_
  rintro r w1 ⟨v, rfl, h1⟩
  have H1 := Lib.hid h1
  clear h1 HC
  go_wp2_with fail
  go_ret
  exact ⟨v, rfl, H1.out⟩
theorem new_any (A : Option Addr) (c : Nat) (es : List Ec) (w : World) (hr : RE w w.heap.size A es) (hc : es.length ≤ c) (hl : es.length ≤ 100000) :
    Calls Try.prog 10 #[.slice A es.length c] w fun r w' => Below w.heap.size w w' ∧ ((okAll es = true ∧ ∃ g out, r = .returned (.tuple #[.pointer (some ⟨g, 0, none⟩), .int .i64 0]) ∧ SetAt w' w.heap.size g out ∧ (∀ j, topE out j = topE es j) ∧ out.length + es.length ≤ 2 * (es.length * es.length)) ∨ (okAll es = false ∧ r = .returned (.tuple #[.pointer none, .int .i64 1]))) := by
  have Hr := Lib.hid hr
  have HM : Hid (okAll es = true → ∀ W, Below w.heap.size w W → Calls Try.prog 33 #[.slice A es.length c] W fun r w' => ∃ v out, r = .returned v ∧ MadeP W w' es v out) := fun hq W hW => made_any 100000 A c es W hl (Nat.le_refl _) hc (okAll_iff.1 hq) (hr.now hW)
  have hl2 : 2 * (es.length * es.length) ≤ 20000000000 := by
    have := Nat.mul_le_mul hl hl
    omega
  have Hl2 := Lib.hid hl2
  have Hlen : Hid (∀ k : Nat, k < es.length → ∃ u, es[k]? = some u) := fun k hk => ⟨_, List.getElem?_eq_getElem hk⟩
  obtain ⟨n, hn⟩ : ∃ n, n = es.length := ⟨_, rfl⟩
  rw [← hn] at HM Hlen hl ⊢
  have hl' : (n : Int) ≤ 100000 := by omega
  have Hn := Lib.hid hn
  clear hr hc hl hl2 hn
  go_enter Try.func10, Try.ntmps10
  go_wp2_with fail
  go_loopw [9] (fun iv wr => ∃ i : Nat, iv = .int .i64 (i : Int) ∧ i ≤ n ∧ Hid ((∀ j e, j < i → es[j]? = some e → kl e.1 e.2.1) ∧ Below w.heap.size w wr)) (fun iv _ => n - (intOf iv).toNat)
  case atStart => exact ⟨0, rfl, Nat.zero_le _, fun j e hj => absurd hj (Nat.not_lt_zero _), Below.refl _ _⟩
  case round =>
    obtain ⟨i, rfl, hi, hst⟩ := hrel
    by_cases hlt : i < n
    · obtain ⟨e, he⟩ := Hlen.out i hlt
      obtain ⟨b, o, rfl, hblt, x0, x1, x2⟩ := (Hr.out.below hst.out.2) i e he
      have hlt' : (i : Int) < (n : Int) := by omega
      have He := Lib.hid he
      have HCk := Lib.hid (fun W => check_any e W)
      have Hz := Lib.hid (chk_zero (e := e))
      have Ha : Hid (Below w.heap.size w (wr.alloc (.cells #[.string e.1, .string e.2.1, .int .u64 (e.2.2 : Int)] 32))) := hst.out.2.alloc hst.out.2.size _
      unfold eV at HCk
      have hce : chkE e = 0 ∨ chkE e = 1 := by unfold chkE; split <;> simp
      clear he hblt hlt
      go_wp2_with fail
      refine (HCk.out _).mono ?_
      rintro r w2 ⟨rfl, hb2⟩
      have H2 : Hid (Below w.heap.size w w2) := Ha.out.trans (hb2.mono Ha.out.size)
      clear hb2 HCk Ha
      rcases hce with hce | hce
      · have Hk := Lib.hid (Hz.out.1 hce)
        rw [hce]
        clear hce Hz
        go_wp2_with fail
        go_roundw
        case rel =>
          refine ⟨i + 1, by go_num, by omega, fun j f hj hf => ?_, H2.out⟩
          rcases Nat.lt_or_ge j i with q | q
          · exact hst.out.1 j f q hf
          · obtain rfl : j = i := by omega
            rw [He.out] at hf
            cases hf
            exact Hk.out
        case measure => simp [intOf]; omega
      · have Hbad : Hid (okAll es = false) := by
          show _ = _
          cases hq : okAll es with
          | false => rfl
          | true => have := Hz.out.2 (okAll_iff.1 hq e (List.mem_of_getElem? He.out)); rw [hce] at this; cases this
        rw [hce]
        clear hce Hz
        go_wp2_with fail
        exact bodyPost_ret (v := .tuple #[.pointer none, .int .i64 1]) (by simp [results, Try.results10, go_sem]) rfl ⟨H2.out, .inr ⟨Hbad.out, rfl⟩⟩
    · obtain rfl : i = n := by omega
      have Hok : Hid (okAll es = true) := okAll_iff.2 fun e he => by
        obtain ⟨j, hj⟩ := List.getElem?_of_mem he
        exact hst.out.1 j e (by have := (List.getElem?_eq_some_iff.1 hj).1; have := Hn.out; omega) hj
      have HM2 := Lib.hid (HM.out Hok.out wr hst.out.2)
      clear HM hlt
      go_wp2_with fail
      refine HM2.out.mono ?_
      rintro r w3 ⟨v, out, rfl, hm⟩
      have hb3 : Below w.heap.size w w3 := hst.out.2.trans (hm.bel.mono hst.out.2.size)
      have Hf : Hid (Below w.heap.size w (w3.alloc (.cells #[v] 65)) ∧ SetAt (w3.alloc (.cells #[v] 65)) w.heap.size w3.heap.size out ∧ (∀ j, topE out j = topE es j) ∧ out.length + es.length ≤ 2 * (es.length * es.length)) :=
        ⟨hb3.alloc hb3.size _, ⟨⟨v, Cells.new w3 _ _, (hm.own.wideB hst.out.2.size).below ((Below.refl _ _).alloc (Nat.le_refl _) _)⟩, hm.plain, hb3.size, by have := hm.len; have := Hl2.out; omega⟩, hm.top, hm.len⟩
      obtain ⟨A3, c3, rfl, _⟩ := hm.own.rd
      clear hm hb3 HM2
      go_wp2_with fail
      exact bodyPost_ret (v := .tuple #[.pointer (some ⟨w3.heap.size, 0, none⟩), .int .i64 0]) (by simp [results, Try.results10, go_sem]) rfl ⟨Hf.out.1, .inl ⟨Hok.out, _, _, rfl, Hf.out.2.1, Hf.out.2.2.1, by have h9 := Hf.out.2.2.2; have e9 := Hn.out; rw [e9]; exact h9⟩⟩
end
end Go.Proofs.Ytghcfmkmndldoaa
