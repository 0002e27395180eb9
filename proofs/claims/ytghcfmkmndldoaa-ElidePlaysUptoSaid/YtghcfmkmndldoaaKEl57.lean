/-
  Both sets' steps.
-/
import Derived.Test.YtghcfmkmndldoaaKEl54
import Derived.Test.YtghcfmkmndldoaaKEl41
import Derived.Test.YtghcfmkmndldoaaKEl13
namespace Go.Proofs.Ytghcfmkmndldoaa
open Go.RowKit Go.Sort Go.Lib

/-- what is elided behind an Add of e, if e may be -/
def addT (f : ByteArray → Nat) (e : Ec) (j : ByteArray) : Nat := if chkE e = 0 then max (f j) (if covE e j = true then e.2.2 + 1 else 0) else f j
section
variable {w wr : World} {gP gR K : Nat} {B : List ByteArray} {vP vR : Value} {out L : List Ec} {e : Ec} {up : Nat}
theorem PairAt.add1 (h : PairAt w wr gP gR B K vP out vR L) (ht : ∀ j, topE out j = topE L j) (ho : out.length ≤ 30000) (e : Ec) :
    Calls Try.prog 11 #[.pointer (some ⟨gP, 0, none⟩), eV e] wr fun r w' => r = .returned (.int .i64 (chkE e)) ∧ ∃ vP' out', PairAt w w' gP gR B K vP' out' vR L ∧ out'.length ≤ 100000 ∧ ∀ j, topE out' j = addT (topE L) e j := by
  refine (add_any e w.heap.size gP vP out wr h.p h.bel.size (by omega)).mono ?_
  rintro r w' ⟨rfl, ⟨h0, hb, hk, v', out', hv', hn, ht', hl'⟩ | ⟨h1, hb⟩⟩
  · refine ⟨rfl, v', out', h.stepP hv' hk (fun b hb9 => hn.imp (fun q => by rw [← q]; exact hb9) fun q => q b hb9), by omega, fun j => ?_⟩
    rw [ht' j, ht j, addT, if_pos h0]
  · refine ⟨rfl, vP, out, h.below hb, by omega, fun j => ?_⟩
    rw [ht j, addT, if_neg (by rw [h1]; decide)]
theorem PairAt.add2 (h : PairAt w wr gP gR B K vP out vR L) (he1 : e.1 ∈ B) (he2 : e.2.1 ∈ B) (hK : K ≤ 100000) :
    Calls Try.prog 9 #[.pointer (some ⟨gR, 0, none⟩), eV e] wr fun r w' => r = .returned (.int .i64 (chkE e)) ∧ ∃ vR' L', PairAt w w' gP gR B (K + 1) vP out vR' L' ∧ ∀ j, topE L' j = addT (topE L) e j := by
  have hl := h.len
  refine (radd_any e w.heap.size gR vR L wr h.r h.bel.size (by omega)).mono ?_
  rintro r w' ⟨rfl, ⟨h0, v', hr', hn⟩ | ⟨h1, hr'⟩, hk⟩
  · refine ⟨rfl, v', L ++ [e], h.stepR hr' hk (fun b hb => hn.imp (fun q => by rw [← q]; exact hb) fun q => q b hb) (by simp; omega) (fun y hy => ?_), fun j => ?_⟩
    · rcases bnd_snoc hy with q | q | q
      · exact h.bnd y q
      · rw [q]; exact he1
      · rw [q]; exact he2
    · rw [addT, if_pos h0, top_append]
      simp [topE]
  · refine ⟨rfl, vR, L, h.stepR hr' hk (fun b hb => .inl hb) (by omega) h.bnd, fun j => ?_⟩
    rw [addT, if_neg (by rw [h1]; decide)]
theorem PairAt.for1 (h : PairAt w wr gP gR B K vP out vR L) (ho : out.length ≤ 1000000) (up : Nat) :
    Calls Try.prog 14 #[.pointer (some ⟨gP, 0, none⟩), .int .u64 (up : Int)] wr fun r w' => r = .returned (.int .i64 ((out.length - (out.filter (newB up)).length : Nat) : Int)) ∧ ∃ vP', PairAt w w' gP gR B K vP' (out.filter (newB up)) vR L := by
  refine (pforget_any up w.heap.size gP vP out wr h.p h.bel.size (by omega)).mono ?_
  rintro r w' ⟨rfl, v', hv', hsame, hb, hk⟩
  exact ⟨rfl, v', h.stepP hv' hk fun b hb9 => .inl (by rw [← hsame]; exact hb9)⟩
/-- what the second saying's List tells is what the program's does -/
theorem list_eq {ls out0 : List Ec} (hp : ListP L ls) (h0 : PlainE out0) (ht : ∀ j, topE out0 j = topE L j) : ls = out0 := plain_ext hp.plain h0 fun j => by rw [hp.top, ht]
theorem PairAt.for2 {out0 : List Ec} (h : PairAt w wr gP gR B K vP out vR L) (h0 : PlainE out0) (ht : ∀ j, topE out0 j = topE L j) (hBK : B.length ≤ K) (hK : K ≤ 100000) (up : Nat) :
    Calls Try.prog 15 #[.pointer (some ⟨gR, 0, none⟩), .int .u64 (up : Int)] wr fun r w' => r = .returned (.int .i64 ((out0.length - (out0.filter (newB up)).length : Nat) : Int)) ∧ ∃ vR', PairAt w w' gP gR B K vP out vR' (out0.filter (newB up)) := by
  have hl := h.len
  refine (rforget_any w.heap.size gR vR L up wr h.r h.bel.size h.ge (by omega)).mono ?_
  rintro r w' ⟨v', ls, rfl, hp, hr', hb, hk, hn⟩
  obtain rfl := list_eq hp h0 ht
  have hlen : ls.length ≤ B.length := plain_len hp.plain fun x hx => h.bnd _ (hp.mem x hx).1
  refine ⟨rfl, v', h.stepR hr' (hk.mono fun _ _ q => q.1) (fun b hb9 => hn.elim (fun q => by rw [q] at hb9; cases hb9) fun q => .inr (q b hb9)) (Nat.le_trans (List.length_filter_le _ _) (by omega)) fun y hy => ?_⟩
  have hy2 : y ∈ bndE ls := bnd_sub List.filter_sublist.subset hy
  obtain ⟨x, hx, q⟩ := List.mem_flatMap.1 hy2
  simp at q
  rcases q with rfl | rfl
  · exact h.bnd _ (hp.mem x hx).1
  · exact h.bnd _ (hp.mem x hx).2
theorem PairAt.lst1 (h : PairAt w wr gP gR B K vP out vR L) : Calls Try.prog 17 #[.pointer (some ⟨gP, 0, none⟩)] wr fun r w' => ∃ A c, r = .returned (.slice A out.length c) ∧ RE w' w'.heap.size A out ∧ Below wr.heap.size wr w' := by
  refine (list_any gP w.heap.size out wr h.p.at_).mono ?_
  rintro r w' ⟨v, rfl, ho, hb⟩
  obtain ⟨A, c, rfl, _, _, hr, _⟩ := ho.rd
  exact ⟨A, c, rfl, hr, hb⟩
theorem PairAt.lst2 (h : PairAt w wr gP gR B K vP out vR L) (ht : ∀ j, topE out j = topE L j) : Calls Try.prog 18 #[.pointer (some ⟨gR, 0, none⟩)] wr fun r w' => ∃ A c, r = .returned (.slice A out.length c) ∧ RE w' w'.heap.size A out ∧ Below wr.heap.size wr w' ∧ out.length ≤ B.length := by
  refine (rlist_any w.heap.size gR vR L wr h.r).mono ?_
  rintro r w' ⟨v, ls, rfl, ho, hp, hb⟩
  obtain rfl := list_eq hp h.p.plain ht
  obtain ⟨A, c, rfl, _, _, hr, _⟩ := ho.rd
  exact ⟨A, c, rfl, hr, hb, plain_len hp.plain fun x hx => h.bnd _ (hp.mem x hx).1⟩
end
end Go.Proofs.Ytghcfmkmndldoaa

/-
  ElidePlays: up to the loop.
-/
namespace Go.Proofs.Ytghcfmkmndldoaa
open Go.RowKit Go.Sort Go.Lib

/-- THE SLICE AT A READS AS the numbers fs -/
def RN (w : World) (B : Nat) (A : Option Addr) (fs : List Nat) : Prop := ∀ (k z : Nat), fs[k]? = some z → ∃ b o, A = some ⟨b, o, none⟩ ∧ b < B ∧ w.cell? ⟨b, o + k, none⟩ = some (.int .u64 (z : Int))
theorem RN.below {w w' : World} {B : Nat} {A : Option Addr} {fs : List Nat} (h : RN w B A fs) (hb : Below B w w') : RN w' B A fs := fun k p hk => by
  obtain ⟨b, o, e, hlt, h0⟩ := h k p hk
  exact ⟨b, o, e, hlt, (hb.cell hlt).trans h0⟩
/-- both sets, and that they elide the same -/
def PlSt (w wr : World) (gP gR : Nat) (B : List ByteArray) (K : Nat) : Prop := ∃ vP out vR L, PairAt w wr gP gR B K vP out vR L ∧ (∀ j, topE out j = topE L j) ∧ out.length ≤ 30000
theorem PlSt.start {w w4 w5 : World} {gP gR : Nat} {vR : Value} {l0 l1 out : List Ec} (hR : RefSet w4 w.heap.size gR vR l0) (hb4 : Below w.heap.size w w4) (hb5 : Below w4.heap.size w4 w5) (hS : SetAt w5 w4.heap.size gP out) (ht : topE out = topE l0) (hl : out.length ≤ 30000) (hg : w.heap.size ≤ gR) (hn : l0.length ≤ 120) :
    PlSt w w5 gP gR (bndE l0 ++ bndE l1) 600 := by
  obtain ⟨vP, hv⟩ := hS.v
  refine ⟨vP, out, vR, l0, ⟨⟨hv.cell, hv.own.wideB hb4.size, hv.plain, Nat.le_trans hb4.size hv.ge, hv.len⟩, hR.below hb5, fun b h1 h2 => ?_, fun y hy => List.mem_append_left _ hy, hg, by omega, hb4.trans (hb5.mono hb4.size)⟩, fun j => by rw [ht], hl⟩
  have q1 := (hv.own.ge b h1).1
  have q2 := (hR.own.ge b h2).2
  omega
end Go.Proofs.Ytghcfmkmndldoaa

/-
  ElidePlays: the walk.
-/
namespace Go.Proofs.Ytghcfmkmndldoaa
open Go.RowKit Go.Sort Go.Lib

section
set_option maxRecDepth 100000
set_option maxHeartbeats 40000000
theorem plays_any (A : Option Addr) (c : Nat) (l0 : List Ec) (A1 : Option Addr) (c1 : Nat) (l1 : List Ec) (A2 : Option Addr) (c2 : Nat) (fs : List Nat) (key klo khi : ByteArray) (sq : Nat) (w : World) (hr : RE w w.heap.size A l0) (hc : l0.length ≤ c) (hl : l0.length ≤ 1099511627776) (hs : sumE l0 ≤ 4611686018427387904)
    (hr1 : RE w w.heap.size A1 l1) (hl1 : l1.length ≤ 1099511627776) (hs1 : sumE l1 ≤ 4611686018427387904) (hr2 : RN w w.heap.size A2 fs) (hl2 : fs.length ≤ 1099511627776) (hf2 : ∀ z ∈ fs, z < 18446744073709551616) (hk1 : key.size ≤ 1099511627776) (hk2 : klo.size ≤ 1099511627776) (hk3 : khi.size ≤ 1099511627776) :
    Calls Try.prog 3 #[.slice A l0.length c, .slice A1 l1.length c1, .slice A2 fs.length c2, .string key, .int .u64 (sq : Int), .string klo, .string khi] w fun r w' => r = .returned (.bool true) ∧ Below w.heap.size w w' := by
  have HK := Lib.hid (known_any w)
  have HF : Hid (∀ W, Below w.heap.size w W → Calls Try.prog 8 #[.slice A l0.length c] W fun r w' => r = .returned (.bool (decide (l0.length ≤ 120) && decide (sumE l0 ≤ 16384))) ∧ Below w.heap.size w w') := fun W hW => by
    refine (fewE_any A c l0 W hl hs (hr.now hW)).mono ?_
    rintro r w' ⟨rfl, hb⟩
    exact ⟨rfl, hW.trans (hb.mono hW.size)⟩
  have HF1 : Hid (∀ W, Below w.heap.size w W → Calls Try.prog 8 #[.slice A1 l1.length c1] W fun r w' => r = .returned (.bool (decide (l1.length ≤ 120) && decide (sumE l1 ≤ 16384))) ∧ Below w.heap.size w w') := fun W hW => by
    refine (fewE_any A1 c1 l1 W hl1 hs1 (hr1.now hW)).mono ?_
    rintro r w' ⟨rfl, hb⟩
    exact ⟨rfl, hW.trans (hb.mono hW.size)⟩
  have Hr : Hid (RE w w.heap.size A l0 ∧ RE w w.heap.size A1 l1 ∧ RN w w.heap.size A2 fs ∧ ∀ z ∈ fs, z < 18446744073709551616) := ⟨hr, hr1, hr2, hf2⟩
  have HN : Hid (l0.length ≤ 120 → ∀ W, Below w.heap.size w W → Calls Try.prog 10 #[.slice A l0.length c] W fun r w' => Below W.heap.size W w' ∧ ((okAll l0 = true ∧ ∃ g out, r = .returned (.tuple #[.pointer (some ⟨g, 0, none⟩), .int .i64 0]) ∧ SetAt w' W.heap.size g out ∧ topE out = topE l0 ∧ out.length ≤ 30000) ∨ (okAll l0 = false ∧ r = .returned (.tuple #[.pointer none, .int .i64 1])))) := fun h120 W hW => by
    refine (new_any A c l0 W (hr.now hW) hc (by omega)).mono ?_
    rintro r w' ⟨hb, ⟨h1, g, out, rfl, h2, h3, h4⟩ | ⟨h, rfl⟩⟩
    · have hq : l0.length * l0.length ≤ 120 * 120 := Nat.mul_le_mul (by omega) (by omega)
      exact ⟨hb, .inl ⟨h1, g, out, rfl, h2, funext h3, by omega⟩⟩
    · exact ⟨hb, .inr ⟨h, rfl⟩⟩
  have Hlen : Hid (∀ k : Nat, k < l0.length → ∃ u, l0[k]? = some u) := fun k hk => ⟨_, List.getElem?_eq_getElem hk⟩
  have Hlen1 : Hid (∀ k : Nat, k < l1.length → ∃ u, l1[k]? = some u) := fun k hk => ⟨_, List.getElem?_eq_getElem hk⟩
  have Hlen2 : Hid (∀ k : Nat, k < fs.length → ∃ u, fs[k]? = some u) := fun k hk => ⟨_, List.getElem?_eq_getElem hk⟩
  obtain ⟨n, hn⟩ : ∃ n, n = l0.length := ⟨_, rfl⟩
  obtain ⟨n1, hn1⟩ : ∃ n1, n1 = l1.length := ⟨_, rfl⟩
  obtain ⟨n2, hn2⟩ : ∃ n2, n2 = fs.length := ⟨_, rfl⟩
  rw [← hn] at HF HN Hlen hl ⊢
  rw [← hn1] at HF1 Hlen1 hl1 ⊢
  rw [← hn2] at Hlen2 hl2 ⊢
  have Hn : Hid (n = l0.length ∧ n1 = l1.length ∧ n2 = fs.length) := ⟨hn, hn1, hn2⟩
  have hl' : (n : Int) ≤ 1099511627776 := by omega
  have hl1' : (n1 : Int) ≤ 1099511627776 := by omega
  have hl2' : (n2 : Int) ≤ 1099511627776 := by omega
  generalize hqq : (decide (n ≤ 120) && decide (sumE l0 ≤ 16384)) = q at HF
  generalize hqq1 : (decide (n1 ≤ 120) && decide (sumE l1 ≤ 16384)) = q1 at HF1
  have Hq : Hid ((q = true → n ≤ 120) ∧ (q1 = true → n1 ≤ 120)) := by
    refine ⟨fun h => ?_, fun h => ?_⟩
    · rw [← hqq] at h
      simp only [Bool.and_eq_true, decide_eq_true_eq] at h
      exact h.1
    · rw [← hqq1] at h
      simp only [Bool.and_eq_true, decide_eq_true_eq] at h
      exact h.1
  have hw1 : IntKind.i64.wrap ((key.size : Int) + (klo.size : Int)) = (key.size : Int) + (klo.size : Int) := by rw [IntKind.wrap_i64]; omega
  have hw2 : IntKind.i64.wrap ((key.size : Int) + (klo.size : Int) + (khi.size : Int)) = (key.size : Int) + (klo.size : Int) + (khi.size : Int) := by rw [IntKind.wrap_i64]; omega
  clear hr hc hl hs hr1 hl1 hs1 hr2 hl2 hf2 hn hn1 hn2 hqq hqq1
  go_enter Try.func3, Try.ntmps3
  go_wp2_with fail
  refine HK.out.mono ?_
  rintro r w1 ⟨rfl, hb1⟩
  have H1 := Lib.hid hb1
  clear hb1 HK
  go_wp2_with fail
  refine (HF.out w1 H1.out).mono ?_
  rintro r w2 ⟨rfl, hb2⟩
  have H2 := Lib.hid hb2
  clear hb2 HF H1
  cases q with
  | false =>
    go_wp2_with fail
    go_ret
    exact ⟨rfl, H2.out⟩
  | true =>
  go_wp2_with fail
  refine (HF1.out w2 H2.out).mono ?_
  rintro r w3 ⟨rfl, hb3⟩
  have H3 := Lib.hid hb3
  clear hb3 HF1 H2
  cases q1 with
  | false =>
    go_wp2_with fail
    go_ret
    exact ⟨rfl, H3.out⟩
  | true =>
  have H120 : Hid (n ≤ 120 ∧ n1 ≤ 120) := ⟨Hq.out.1 (by first | rfl | trivial), Hq.out.2 (by first | rfl | trivial)⟩
  clear Hq
  rcases Decidable.em ((key.size : Int) + (klo.size : Int) + (khi.size : Int) > 3000) with hbig | hbig
  · have hbig2 : (3000 : Int) < (key.size : Int) + (klo.size : Int) + (khi.size : Int) := hbig
    go_wp2_with fail
    go_ret
    exact ⟨rfl, H3.out⟩
  have hbig2 : ¬ (3000 : Int) < (key.size : Int) + (klo.size : Int) + (khi.size : Int) := hbig
  have hbig3 : (key.size : Int) + (klo.size : Int) + (khi.size : Int) ≤ 3000 := by omega
  have H0 : Hid (RefSet (w3.alloc (.cells #[.slice none 0 0] 29)) w.heap.size w3.heap.size (.slice none 0 0) (l0.take 0) ∧ Below w.heap.size w (w3.alloc (.cells #[.slice none 0 0] 29)) ∧ w.heap.size ≤ w3.heap.size) :=
    ⟨⟨Cells.new w3 _ _, OwnE.nil _ _, by simp⟩, H3.out.alloc H3.out.size _, H3.out.size⟩
  clear H3
  go_wp2_with fail
  generalize w3.heap.size = gR at *
  go_loopw [16, 17] (fun bv iv wr => ∃ (i : Nat) (bad : Bool), iv = .int .i64 (i : Int) ∧ bv = .bool bad ∧ i ≤ n ∧ Hid (Below w.heap.size w wr ∧ (bad = false → (∀ j e, j < i → l0[j]? = some e → kl e.1 e.2.1) ∧ ∃ v, RefSet wr w.heap.size gR v (l0.take i)) ∧ (bad = true → okAll l0 = false))) (fun _ iv _ => n - (intOf iv).toNat)
  case atStart => exact ⟨0, false, rfl, rfl, Nat.zero_le _, H0.out.2.1, fun _ => ⟨fun j e hj => absurd hj (Nat.not_lt_zero _), _, H0.out.1⟩, fun h => by cases h⟩
  case round =>
    obtain ⟨i, bad, rfl, rfl, hi, hst⟩ := hrel
    by_cases hlt : i < n
    · obtain ⟨e, he⟩ := Hlen.out i hlt
      obtain ⟨b, o, rfl, hblt, x0, x1, x2⟩ := (Hr.out.1.below hst.out.1) i e he
      have hlt' : (i : Int) < (n : Int) := by omega
      have He : Hid (l0[i]? = some e ∧ i + 1 ≤ n ∧ i < n) := ⟨he, by omega, hlt⟩
      cases bad with
      | true =>
        clear he hblt hlt
        go_wp2_with fail
        go_roundw
        case rel => exact ⟨i + 1, true, by go_num, rfl, He.out.2.1, hst.out.1, (fun h => by cases h), hst.out.2.2⟩
        case measure => have := He.out.2.2; simp [intOf]; omega
      | false =>
        obtain ⟨hlo9, v, hv⟩ := hst.out.2.1 (by first | rfl | trivial)
        have HCa : Hid (Calls Try.prog 9 #[.pointer (some ⟨gR, 0, none⟩), eV e] wr fun r w' => r = .returned (.int .i64 (chkE e)) ∧ Below w.heap.size w w' ∧ (chkE e = 0 → ∃ v', RefSet w' w.heap.size gR v' (l0.take (i + 1)))) := by
          refine (radd_any e w.heap.size gR v (l0.take i) wr hv hst.out.1.size (by have := List.length_take_le i l0; have := H120.out.1; omega)).mono ?_
          rintro r w' ⟨rfl, h1, hk⟩
          refine ⟨rfl, hst.out.1.trans (hk.to_below (fun k hk9 => ⟨by have := H0.out.2.2; omega, fun q => by have := (hv.own.ge k q).1; omega⟩) hst.out.1.size), fun h0 => ?_⟩
          rcases h1 with ⟨_, v', h2, _⟩ | ⟨h2, _⟩
          · exact ⟨v', by rw [List.take_add_one, he]; exact h2⟩
          · rw [h0] at h2; cases h2
        have Hlo := Lib.hid hlo9
        have Hz := Lib.hid (chk_zero (e := e))
        unfold eV at HCa
        have hce : chkE e = 0 ∨ chkE e = 1 := by unfold chkE; split <;> simp
        clear he hblt hlt hv hlo9
        go_wp2_with fail
        refine HCa.out.mono ?_
        rintro r w4 ⟨rfl, hb4, h4⟩
        have H4 := Lib.hid hb4
        have H5 := Lib.hid h4
        clear hb4 h4 HCa
        rcases hce with hce | hce
        · have Hk := Lib.hid (Hz.out.1 hce)
          have Hv := Lib.hid (H5.out hce)
          rw [hce]
          clear hce Hz H5
          go_wp2_with fail
          go_roundw
          case rel =>
            refine ⟨i + 1, false, by go_num, rfl, He.out.2.1, H4.out, fun _ => ⟨fun j f hj hf => ?_, Hv.out⟩, fun h => by cases h⟩
            rcases Nat.lt_or_ge j i with q | q
            · exact Hlo.out j f q hf
            · obtain rfl : j = i := by omega
              rw [He.out.1] at hf
              cases hf
              exact Hk.out
          case measure => have := He.out.2.2; simp [intOf]; omega
        · have Hbad : Hid (okAll l0 = false) := by
            show _ = _
            cases hq : okAll l0 with
            | false => rfl
            | true => have := Hz.out.2 (okAll_iff.1 hq e (List.mem_of_getElem? He.out.1)); rw [hce] at this; cases this
          rw [hce]
          clear hce Hz H5
          go_wp2_with fail
          go_roundw
          case rel => exact ⟨i + 1, true, by go_num, rfl, He.out.2.1, H4.out, (fun h => by cases h), fun _ => Hbad.out⟩
          case measure => have := He.out.2.2; simp [intOf]; omega
    · obtain rfl : i = n := by omega
      have HN2 := Lib.hid (HN.out H120.out.1 wr hst.out.1)
      cases bad with
      | true =>
        have Hbad : Hid (okAll l0 = false ∧ Below w.heap.size w wr) := ⟨hst.out.2.2 (by first | rfl | trivial), hst.out.1⟩
        clear hst hlt HN Hlen
        go_wp2_with fail
        refine HN2.out.mono ?_
        rintro r w5 ⟨hb5, ⟨h, _⟩ | ⟨_, rfl⟩⟩
        · rw [Hbad.out.1] at h; cases h
        · have H5 : Hid (Below w.heap.size w w5) := Hbad.out.2.trans (hb5.mono Hbad.out.2.size)
          clear hb5 HN2
          go_wp2_with fail
          go_ret
          exact ⟨rfl, H5.out⟩
      | false =>
        obtain ⟨hlo9, v, hv⟩ := hst.out.2.1 (by first | rfl | trivial)
        rw [List.take_of_length_le (by have := Hn.out.1; omega)] at hv
        have Hok : Hid (okAll l0 = true ∧ RefSet wr w.heap.size gR v l0 ∧ Below w.heap.size w wr) := ⟨okAll_iff.2 fun e he => by
          obtain ⟨j, hj⟩ := List.getElem?_of_mem he
          exact hlo9 j e (by have := (List.getElem?_eq_some_iff.1 hj).1; have := Hn.out.1; omega) hj, hv, hst.out.1⟩
        clear hst hlt HN Hlen hlo9 hv
        generalize wr = w4 at *
        go_wp2_with fail
        refine HN2.out.mono ?_
        rintro r w5 ⟨hb5, ⟨_, gP, out, rfl, hS5, ht5, ho5⟩ | ⟨h, _⟩⟩
        · have Hst : Hid (PlSt w w5 gP gR (bndE l0 ++ bndE l1) 600) := PlSt.start Hok.out.2.1 Hok.out.2.2 hb5 hS5 ht5 ho5 H0.out.2.2 (by have := Hn.out.1; have := H120.out.1; omega)
          clear hb5 hS5 ht5 ho5 HN2 Hok
          have HnI : Hid (n1 ≤ 120 ∧ (bndE l0 ++ bndE l1).length ≤ 480) := ⟨H120.out.2, by rw [List.length_append, bnd_len, bnd_len]; have := Hn.out.1; have := Hn.out.2.1; have := H120.out.1; have := H120.out.2; omega⟩
          go_wp2_with fail
          clear H120
          go_loopw [20] (fun iv wr => ∃ i : Nat, iv = .int .i64 (i : Int) ∧ i ≤ n1 ∧ Hid (PlSt w wr gP gR (bndE l0 ++ bndE l1) (600 + i))) (fun iv _ => n1 - (intOf iv).toNat)
          case atStart => exact ⟨0, rfl, Nat.zero_le _, Hst.out⟩
          case round =>
            obtain ⟨i, rfl, hi, hst⟩ := hrel
            by_cases hlt : i < n1
            · obtain ⟨vP, out, vR, L, hP, ht, ho⟩ := hst.out
              obtain ⟨e, he⟩ := Hlen1.out i hlt
              obtain ⟨b, o, rfl, _, x0, x1, x2⟩ := (Hr.out.2.1.below hP.bel) i e he
              have hlt' : (i : Int) < (n1 : Int) := by omega
              have heb := bnd_mem (List.mem_of_getElem? he)
              have HA1 : Hid (∀ X, (X = wr ∨ X = wr.drew) → Calls Try.prog 11 #[.pointer (some ⟨gP, 0, none⟩), eV e] X fun r w' => r = .returned (.int .i64 (chkE e)) ∧ ∃ vP' out', Hid (PairAt w w' gP gR (bndE l0 ++ bndE l1) (600 + i) vP' out' vR L ∧ out'.length ≤ 100000 ∧ ∀ j, topE out' j = addT (topE L) e j)) := fun X hX => by
                have hPX : PairAt w X gP gR (bndE l0 ++ bndE l1) (600 + i) vP out vR L := by
                  rcases hX with rfl | rfl
                  · exact hP
                  · exact hP.below ((Below.refl _ _).drew)
                refine (hPX.add1 ht ho e).mono ?_
                rintro r w' ⟨rfl, vP', out', h1, h2, h3⟩
                exact ⟨rfl, vP', out', h1, h2, h3⟩
              have HA2 : Hid (∀ vP' out' Y X, PairAt w Y gP gR (bndE l0 ++ bndE l1) (600 + i) vP' out' vR L → (X = Y ∨ X = Y.drew) → Calls Try.prog 9 #[.pointer (some ⟨gR, 0, none⟩), eV e] X fun r w' => r = .returned (.int .i64 (chkE e)) ∧ ∃ vR' L', Hid (PairAt w w' gP gR (bndE l0 ++ bndE l1) (600 + (i + 1)) vP' out' vR' L' ∧ ∀ j, topE L' j = addT (topE L) e j)) := fun vP' out' Y X hY hX => by
                have hPX : PairAt w X gP gR (bndE l0 ++ bndE l1) (600 + i) vP' out' vR L := by
                  rcases hX with rfl | rfl
                  · exact hY
                  · exact hY.below ((Below.refl _ _).drew)
                refine (hPX.add2 (List.mem_append_right _ heb.1) (List.mem_append_right _ heb.2) (by have := HnI.out.1; have := hlt; omega)).mono ?_
                rintro r w' ⟨rfl, vR', L', h1, h2⟩
                exact ⟨rfl, vR', L', h1, h2⟩
              have HCk1 : Hid (∀ Y X, (X = Y ∨ X = Y.drew) → Calls Try.prog 12 #[eV e] X fun r w' => r = .returned (.int .i64 (chkE e)) ∧ Below Y.heap.size Y w') := fun Y X hX => by
                rcases hX with rfl | rfl
                · exact check_any e _
                · refine (check_any e Y.drew).mono ?_
                  rintro r w' ⟨rfl, hb⟩
                  exact ⟨rfl, ((Below.refl _ _).drew).trans hb⟩
              have HCk2 : Hid (∀ Y X, (X = Y ∨ X = Y.drew) → Calls Try.prog 13 #[eV e] X fun r w' => r = .returned (.int .i64 (chkE e)) ∧ Below Y.heap.size Y w') := fun Y X hX => by
                rcases hX with rfl | rfl
                · exact rcheck_any e _
                · refine (rcheck_any e Y.drew).mono ?_
                  rintro r w' ⟨rfl, hb⟩
                  exact ⟨rfl, ((Below.refl _ _).drew).trans hb⟩
              have Hcell : Hid (∀ W, Below w.heap.size w W → W.cell? ⟨b, o + i * 3, none⟩ = some (.string e.1) ∧ W.cell? ⟨b, o + i * 3 + 1, none⟩ = some (.string e.2.1) ∧ W.cell? ⟨b, o + i * 3 + 2, none⟩ = some (.int .u64 (e.2.2 : Int))) := fun W hW => by
                obtain ⟨b', o', e', _, q0, q1, q2⟩ := (Hr.out.2.1.below hW) i e he
                cases e'
                exact ⟨q0, q1, q2⟩
              have d0 : wr.drew.cell? ⟨b, o + i * 3, none⟩ = some (.string e.1) := x0
              have d1 : wr.drew.cell? ⟨b, o + i * 3 + 1, none⟩ = some (.string e.2.1) := x1
              have d2 : wr.drew.cell? ⟨b, o + i * 3 + 2, none⟩ = some (.int .u64 (e.2.2 : Int)) := x2
              have He : Hid (l1[i]? = some e ∧ i < n1) := ⟨he, hlt⟩
              generalize hce : chkE e = ce at *
              unfold eV at HA1 HA2 HCk1 HCk2
              clear hP ht ho he heb hlt hst hce
              go_upto_region 19 with fail
              go_cut [110] (fun u wx => u = .bool false ∧ Hid (∃ vP out vR L, PairAt w wx gP gR (bndE l0 ++ bndE l1) (600 + (i + 1)) vP out vR L ∧ (∀ j, topE out j = topE L j) ∧ out.length ≤ 100000))
              case first => as_aux_lemma =>
                go_region_held3 (fun X => X.cell? ⟨b, o + i * 3, none⟩ = some (.string e.1) ∧ X.cell? ⟨b, o + i * 3 + 1, none⟩ = some (.string e.2.1) ∧ X.cell? ⟨b, o + i * 3 + 2, none⟩ = some (.int .u64 (e.2.2 : Int))) (first | exact ⟨x0, x1, x2⟩ | exact ⟨y0, y1, y2⟩ | exact ⟨z0, z1, z2⟩ | exact ⟨v0, v1, v2⟩ | exact ⟨m0, m1, m2⟩) (first
                  | (go_at_call 11; refine (HA1.out _ (by first | exact .inl (by with_reducible rfl) | exact .inr (by with_reducible rfl))).mono ?_; rintro e9 w6 ⟨rfl, vP6, out6, H6⟩; obtain ⟨y0, y1, y2⟩ := Hcell.out w6 H6.out.1.bel; have yd0 : w6.drew.cell? ⟨b, o + i * 3, none⟩ = some (.string e.1) := y0; have yd1 : w6.drew.cell? ⟨b, o + i * 3 + 1, none⟩ = some (.string e.2.1) := y1; have yd2 : w6.drew.cell? ⟨b, o + i * 3 + 2, none⟩ = some (.int .u64 (e.2.2 : Int)) := y2)
                  | (go_at_call 9; refine (HA2.out vP6 out6 w6 _ H6.out.1 (by first | exact .inl (by with_reducible rfl) | exact .inr (by with_reducible rfl))).mono ?_; rintro e9 w7 ⟨rfl, vR7, L7, H7⟩; obtain ⟨z0, z1, z2⟩ := Hcell.out w7 H7.out.1.bel; have zd0 : w7.drew.cell? ⟨b, o + i * 3, none⟩ = some (.string e.1) := z0; have zd1 : w7.drew.cell? ⟨b, o + i * 3 + 1, none⟩ = some (.string e.2.1) := z1; have zd2 : w7.drew.cell? ⟨b, o + i * 3 + 2, none⟩ = some (.int .u64 (e.2.2 : Int)) := z2)
                  | (go_at_call 12; refine (HCk1.out w7 _ (by first | exact .inl (by with_reducible rfl) | exact .inr (by with_reducible rfl))).mono ?_; rintro e9 w8 ⟨rfl, hb8⟩; have H8 := Lib.hid hb8; clear hb8; obtain ⟨v0, v1, v2⟩ := Hcell.out w8 (H7.out.1.bel.trans (H8.out.mono H7.out.1.bel.size)); have vd0 : w8.drew.cell? ⟨b, o + i * 3, none⟩ = some (.string e.1) := v0; have vd1 : w8.drew.cell? ⟨b, o + i * 3 + 1, none⟩ = some (.string e.2.1) := v1; have vd2 : w8.drew.cell? ⟨b, o + i * 3 + 2, none⟩ = some (.int .u64 (e.2.2 : Int)) := v2)
                  | (go_at_call 13; refine (HCk2.out w8 _ (by first | exact .inl (by with_reducible rfl) | exact .inr (by with_reducible rfl))).mono ?_; rintro e9 w9 ⟨rfl, hb9⟩; have H9 := Lib.hid hb9; clear hb9; obtain ⟨m0, m1, m2⟩ := Hcell.out w9 (H7.out.1.bel.trans ((H8.out.mono H7.out.1.bel.size).trans (H9.out.mono (Nat.le_trans H7.out.1.bel.size H8.out.size))))))
                have HP9 : Hid (∃ vP out vR L, PairAt w w9 gP gR (bndE l0 ++ bndE l1) (600 + (i + 1)) vP out vR L ∧ (∀ j, topE out j = topE L j) ∧ out.length ≤ 100000) := ⟨vP6, out6, vR7, L7, H7.out.1.below (H8.out.trans (H9.out.mono H8.out.size)), fun j => by rw [H6.out.2.2 j, H7.out.2 j], H6.out.2.1⟩
                go_wp2_with fail
                go_meet
                exact ⟨by first | rfl | simp, HP9⟩
              case rest =>
              obtain ⟨rfl, HP9e⟩ := hcut
              generalize wc = w9 at *
              obtain ⟨vP6, out6, vR7, L7, hP9⟩ := HP9e.out
              have HP9 := Lib.hid hP9
              clear hP9 HP9e HA1 HA2 HCk1 HCk2 x0 x1 x2 d0 d1 d2
              have hcase : n2 ≤ i ∨ (∃ z, fs[i]? = some z ∧ i < n2 ∧ z = 0) ∨ (∃ z, fs[i]? = some z ∧ i < n2 ∧ 0 < z) := by
                rcases Nat.lt_or_ge i n2 with q | q
                · obtain ⟨z, hz⟩ := Hlen2.out i q
                  rcases Nat.eq_zero_or_pos z with p | p
                  · exact .inr (.inl ⟨z, hz, q, p⟩)
                  · exact .inr (.inr ⟨z, hz, q, p⟩)
                · exact .inl q
              go_upto_region 21 with fail
              go_cut [138] (fun u wx => u = .bool false ∧ Hid (∃ vP out vR L, PairAt w wx gP gR (bndE l0 ++ bndE l1) (600 + (i + 1)) vP out vR L ∧ (∀ j, topE out j = topE L j) ∧ out.length ≤ 100000))
              case first => as_aux_lemma =>
                rcases hcase with hge | ⟨z, hz, hzl, hz0⟩ | ⟨z, hz, hzl, hz0⟩
                · have hnl : ¬ (i : Int) < (n2 : Int) := by omega
                  clear hge
                  go_quiet (fail)
                  obtain ⟨wM, hwM⟩ : ∃ wM, wM = w9.drewN nq := ⟨_, rfl⟩
                  have HM : Hid (∃ vP out vR L, PairAt w wM gP gR (bndE l0 ++ bndE l1) (600 + (i + 1)) vP out vR L ∧ (∀ j, topE out j = topE L j) ∧ out.length ≤ 100000) := ⟨_, _, _, _, by rw [hwM]; exact HP9.out.1.below (below_dr (Below.refl _ _) nq), HP9.out.2⟩
                  rw [← hwM]
                  clear hwM
                  go_wp2_with fail
                  go_meet
                  exact ⟨by first | rfl | simp, HM⟩
                · obtain ⟨b2, o2, rfl, _, f0⟩ := (Hr.out.2.2.1.below HP9.out.1.bel) i z hz
                  subst hz0
                  have hil : (i : Int) < (n2 : Int) := by omega
                  clear hz hzl
                  go_quiet (fail)
                  obtain ⟨wM, hwM⟩ : ∃ wM, wM = w9.drewN nq := ⟨_, rfl⟩
                  have HM : Hid (∃ vP out vR L, PairAt w wM gP gR (bndE l0 ++ bndE l1) (600 + (i + 1)) vP out vR L ∧ (∀ j, topE out j = topE L j) ∧ out.length ≤ 100000) := ⟨_, _, _, _, by rw [hwM]; exact HP9.out.1.below (below_dr (Below.refl _ _) nq), HP9.out.2⟩
                  rw [← hwM]
                  clear hwM f0
                  go_wp2_with fail
                  go_meet
                  exact ⟨by first | rfl | simp, HM⟩
                · obtain ⟨b2, o2, rfl, _, f0⟩ := (Hr.out.2.2.1.below HP9.out.1.bel) i z hz
                  have hil : (i : Int) < (n2 : Int) := by omega
                  have hz9 := Hr.out.2.2.2 z (List.mem_of_getElem? hz)
                  have hzw : IntKind.u64.wrap ((z : Int) - 1) = ((z - 1 : Nat) : Int) := by rw [IntKind.wrap_u64]; omega
                  have hz1 : (z : Int) > 0 := by omega
                  have hz2 : (0 : Int) < (z : Int) := by omega
                  have Hfc : Hid (∀ W, Below w.heap.size w W → W.cell? ⟨b2, o2 + i, none⟩ = some (.int .u64 (z : Int))) := fun W hW => by
                    obtain ⟨b', o', e', _, q⟩ := (Hr.out.2.2.1.below hW) i z hz
                    cases e'
                    exact q
                  have HG1 : Hid (∀ X, (X = w9 ∨ X = w9.drew) → Calls Try.prog 14 #[.pointer (some ⟨gP, 0, none⟩), .int .u64 ((z - 1 : Nat) : Int)] X fun r w' => r = .returned (.int .i64 ((out6.length - (out6.filter (newB (z - 1))).length : Nat) : Int)) ∧ ∃ vP', Hid (PairAt w w' gP gR (bndE l0 ++ bndE l1) (600 + (i + 1)) vP' (out6.filter (newB (z - 1))) vR7 L7)) := fun X hX => by
                    have hPX : PairAt w X gP gR (bndE l0 ++ bndE l1) (600 + (i + 1)) vP6 out6 vR7 L7 := by
                      rcases hX with rfl | rfl
                      · exact HP9.out.1
                      · exact HP9.out.1.below ((Below.refl _ _).drew)
                    exact hPX.for1 (by have := HP9.out.2.2; omega) (z - 1)
                  have HG2 : Hid (∀ vP' Y X, PairAt w Y gP gR (bndE l0 ++ bndE l1) (600 + (i + 1)) vP' (out6.filter (newB (z - 1))) vR7 L7 → (X = Y ∨ X = Y.drew) → Calls Try.prog 15 #[.pointer (some ⟨gR, 0, none⟩), .int .u64 ((z - 1 : Nat) : Int)] X fun r w' => r = .returned (.int .i64 ((out6.length - (out6.filter (newB (z - 1))).length : Nat) : Int)) ∧ ∃ vR', Hid (PairAt w w' gP gR (bndE l0 ++ bndE l1) (600 + (i + 1)) vP' (out6.filter (newB (z - 1))) vR' (out6.filter (newB (z - 1))))) := fun vP' Y X hY hX => by
                    have hPX : PairAt w X gP gR (bndE l0 ++ bndE l1) (600 + (i + 1)) vP' (out6.filter (newB (z - 1))) vR7 L7 := by
                      rcases hX with rfl | rfl
                      · exact hY
                      · exact hY.below ((Below.refl _ _).drew)
                    exact hPX.for2 HP9.out.1.p.plain HP9.out.2.1 (by have := HnI.out.2; omega) (by have := HnI.out.1; have := He.out.2; omega) (z - 1)
                  have Hfl : Hid ((out6.filter (newB (z - 1))).length ≤ 100000) := Nat.le_trans (List.length_filter_le _ _) HP9.out.2.2
                  generalize ((out6.length - (out6.filter (newB (z - 1))).length : Nat) : Int) = cv at HG1 HG2
                  generalize out6.filter (newB (z - 1)) = flt at HG1 HG2 Hfl
                  generalize z - 1 = zz at *
                  clear hz hzl hz9 HP9
                  go_region_held3 (fun X => X.cell? ⟨b2, o2 + i, none⟩ = some (.int .u64 (z : Int))) (first | exact f0 | exact f1 | exact f2) (first
                    | (go_at_call 14; refine (HG1.out _ (by first | exact .inl (by with_reducible rfl) | exact .inr (by with_reducible rfl))).mono ?_; rintro e9 wa ⟨rfl, vPa, Ha⟩; have f1 := Hfc.out wa Ha.out.bel)
                    | (go_at_call 15; refine (HG2.out vPa wa _ Ha.out (by first | exact .inl (by with_reducible rfl) | exact .inr (by with_reducible rfl))).mono ?_; rintro e9 wM ⟨rfl, vRb, Hb⟩; have f2 := Hfc.out wM Hb.out.bel))
                  have HM : Hid (∃ vP out vR L, PairAt w wM gP gR (bndE l0 ++ bndE l1) (600 + (i + 1)) vP out vR L ∧ (∀ j, topE out j = topE L j) ∧ out.length ≤ 100000) := ⟨_, _, _, _, Hb.out, fun _ => rfl, Hfl.out⟩
                  go_wp2_with fail
                  go_meet
                  exact ⟨by first | rfl | simp, HM⟩
              case rest =>
              obtain ⟨rfl, HM⟩ := hcut
              generalize wc = wM at *
              clear HP9 hcase
              focus
                obtain ⟨vP9, out, vR9, L9, hP, ht, hol⟩ := HM.out
                have hbel := hP.bel
                obtain ⟨no, hno⟩ : ∃ no, no = out.length := ⟨_, rfl⟩
                have HL1 : Hid (∀ Y X, Below wM.heap.size wM Y → (X = Y ∨ X = Y.drew) → Calls Try.prog 17 #[.pointer (some ⟨gP, 0, none⟩)] X fun r w' => ∃ A c, r = .returned (.slice A no c) ∧ Hid (RE w' w'.heap.size A out) ∧ Hid (Below Y.heap.size Y w' ∧ Below wM.heap.size wM w')) := fun Y X hY hX => by
                  have hXY : Below Y.heap.size Y X := by rcases hX with rfl | rfl; exact Below.refl _ _; exact (Below.refl _ _).drew
                  refine ((hP.below (hY.trans (hXY.mono hY.size))).lst1).mono ?_
                  rintro r w' ⟨A', c', rfl, h1, h2⟩
                  have h3 := hXY.trans (h2.mono hXY.size)
                  exact ⟨A', c', by rw [hno], h1, h3, hY.trans (h3.mono hY.size)⟩
                have HL2 : Hid (∀ Y X, Below wM.heap.size wM Y → (X = Y ∨ X = Y.drew) → Calls Try.prog 18 #[.pointer (some ⟨gR, 0, none⟩)] X fun r w' => ∃ A c, r = .returned (.slice A no c) ∧ Hid (RE w' w'.heap.size A out) ∧ Hid (Below Y.heap.size Y w' ∧ Below wM.heap.size wM w' ∧ no ≤ 480)) := fun Y X hY hX => by
                  have hXY : Below Y.heap.size Y X := by rcases hX with rfl | rfl; exact Below.refl _ _; exact (Below.refl _ _).drew
                  refine ((hP.below (hY.trans (hXY.mono hY.size))).lst2 ht).mono ?_
                  rintro r w' ⟨A', c', rfl, h1, h2, h4⟩
                  have h3 := hXY.trans (h2.mono hXY.size)
                  exact ⟨A', c', by rw [hno], h1, h3, hY.trans (h3.mono hY.size), by have := HnI.out.2; omega⟩
                have HSm : Hid (∀ A3 c3 A4 c4 Y X, Below wM.heap.size wM Y → (X = Y ∨ X = Y.drew) → RE Y Y.heap.size A3 out → RE Y Y.heap.size A4 out → Calls Try.prog 16 #[.slice A3 no c3, .slice A4 no c4] X fun r w' => r = .returned (.bool true) ∧ Hid (Below wM.heap.size wM w')) := fun A3 c3 A4 c4 Y X hY hX h3 h4 => by
                  have hXY : Below Y.heap.size Y X := by rcases hX with rfl | rfl; exact Below.refl _ _; exact (Below.refl _ _).drew
                  have q := sameE_any A3 A4 c3 c4 out out X (by omega) (by omega) (h3.now hXY) (h4.now hXY)
                  rw [← hno] at q
                  refine q.mono ?_
                  rintro r w' ⟨rfl, h2⟩
                  exact ⟨by rw [decide_eq_true rfl], hY.trans ((hXY.trans (h2.mono hXY.size)).mono hY.size)⟩
                have HLn : Hid (∀ Y X, Below wM.heap.size wM Y → (X = Y ∨ X = Y.drew) → Calls Try.prog 19 #[.pointer (some ⟨gP, 0, none⟩)] X fun r w' => r = .returned (.int .i64 (no : Int)) ∧ Hid (Below wM.heap.size wM w')) := fun Y X hY hX => by
                  have hXY : Below Y.heap.size Y X := by rcases hX with rfl | rfl; exact Below.refl _ _; exact (Below.refl _ _).drew
                  have q := plen_any gP w.heap.size out X ((hP.below (hY.trans (hXY.mono hY.size))).p.at_)
                  rw [← hno] at q
                  refine q.mono ?_
                  rintro r w' ⟨rfl, h2⟩
                  exact ⟨rfl, hY.trans ((hXY.trans (h2.mono hXY.size)).mono hY.size)⟩
                obtain ⟨d, hd⟩ : ∃ d : ByteArray → Bool, d = fun k => decide (sq < topE out k) := ⟨_, rfl⟩
                have HH1 : Hid (∀ k Y X, Below wM.heap.size wM Y → (X = Y ∨ X = Y.drew) → Calls Try.prog 20 #[.pointer (some ⟨gP, 0, none⟩), .string k, .int .u64 (sq : Int)] X fun r w' => r = .returned (.bool (d k)) ∧ Hid (Below wM.heap.size wM w')) := fun k Y X hY hX => by
                  have hXY : Below Y.heap.size Y X := by rcases hX with rfl | rfl; exact Below.refl _ _; exact (Below.refl _ _).drew
                  refine (has_any gP w.heap.size out k sq X ((hP.below (hY.trans (hXY.mono hY.size))).p.at_)).mono ?_
                  rintro r w' ⟨rfl, h2⟩
                  exact ⟨by rw [hd], hY.trans ((hXY.trans (h2.mono hXY.size)).mono hY.size)⟩
                have HH2 : Hid (∀ k Y X, Below wM.heap.size wM Y → (X = Y ∨ X = Y.drew) → Calls Try.prog 21 #[.pointer (some ⟨gR, 0, none⟩), .string k, .int .u64 (sq : Int)] X fun r w' => r = .returned (.bool (d k)) ∧ Hid (Below wM.heap.size wM w')) := fun k Y X hY hX => by
                  have hXY : Below Y.heap.size Y X := by rcases hX with rfl | rfl; exact Below.refl _ _; exact (Below.refl _ _).drew
                  refine (rhas_any w.heap.size gR vR9 L9 k sq X ((hP.below (hY.trans (hXY.mono hY.size))).r)).mono ?_
                  rintro r w' ⟨rfl, h2⟩
                  exact ⟨by rw [hd]; show _ = Ending.returned (Value.bool (decide (sq < topE out k))); rw [ht], hY.trans ((hXY.trans (h2.mono hXY.size)).mono hY.size)⟩
                have Hc : Hid (Below wM.heap.size wM wM) := Below.refl _ _
                have Hkc : Hid (∀ W, Below wM.heap.size wM W → W.cell? ⟨b, o + i * 3, none⟩ = some (.string e.1) ∧ W.cell? ⟨b, o + i * 3 + 1, none⟩ = some (.string e.2.1)) := fun W hW => by
                  have q := Hcell.out W (hbel.trans (hW.mono hbel.size))
                  exact ⟨q.1, q.2.1⟩
                have kc := Hkc.out wM Hc.out
                obtain ⟨kc0, kc1⟩ := kc
                have HPl : Hid (∀ W, Below wM.heap.size wM W → no ≤ 480 → PlSt w W gP gR (bndE l0 ++ bndE l1) (600 + (i + 1))) := fun W hW h480 => ⟨vP9, out, vR9, L9, hP.below hW, ht, by omega⟩
                clear hP ht hol hbel hno hd HM
                go_upto_region 23 with fail
                go_cut [201] (fun u wx => u = .bool false ∧ Hid (PlSt w wx gP gR (bndE l0 ++ bndE l1) (600 + (i + 1))))
                case first => as_aux_lemma =>
                  go_region_held3 (fun X => X.cell? ⟨b, o + i * 3, none⟩ = some (.string e.1) ∧ X.cell? ⟨b, o + i * 3 + 1, none⟩ = some (.string e.2.1)) (first | exact ⟨kc0, kc1⟩ | exact kc) (first
                    | (go_at_call 17; refine (HL1.out _ _ Hc.out (by first | exact .inl (by with_reducible rfl) | exact .inr (by with_reducible rfl))).mono ?_; rintro e9 wc ⟨A3, c3, rfl, rP, hq⟩; have Hc := Lib.hid hq.out.2; have kc := Hkc.out wc Hc.out)
                    | (go_at_call 18; refine (HL2.out _ _ Hc.out (by first | exact .inl (by with_reducible rfl) | exact .inr (by with_reducible rfl))).mono ?_; rintro e9 wc ⟨A4, c4, rfl, rR, hq⟩; (try (have rP := Lib.hid (rP.out.now hq.out.1))); have Hc := Lib.hid hq.out.2.1; have kc := Hkc.out wc Hc.out)
                    | (go_at_call 16; refine (HSm.out A3 c3 A4 c4 _ _ Hc.out (by first | exact .inl (by with_reducible rfl) | exact .inr (by with_reducible rfl)) rP.out rR.out).mono ?_; rintro e9 wc ⟨rfl, Hc⟩; have kc := Hkc.out wc Hc.out)
                    | (go_at_call 19; refine (HLn.out _ _ Hc.out (by first | exact .inl (by with_reducible rfl) | exact .inr (by with_reducible rfl))).mono ?_; rintro e9 wc ⟨rfl, Hc⟩; have kc := Hkc.out wc Hc.out)
                    | (go_at_call 20; refine (HH1.out _ _ _ Hc.out (by first | exact .inl (by with_reducible rfl) | exact .inr (by with_reducible rfl))).mono ?_; rintro e9 wc ⟨rfl, Hc⟩; have kc := Hkc.out wc Hc.out)
                    | (go_at_call 21; refine (HH2.out _ _ _ Hc.out (by first | exact .inl (by with_reducible rfl) | exact .inr (by with_reducible rfl))).mono ?_; rintro e9 wc ⟨rfl, Hc⟩; have kc := Hkc.out wc Hc.out))
                  go_wp2_with fail
                  go_meet
                  exact ⟨by first | rfl | simp, HPl.out _ Hc.out hq.out.2.2⟩
                case rest =>
                obtain ⟨rfl, HPn⟩ := hcut
                clear HL1 HL2 HSm HLn HH1 HH2 HPl Hkc kc0 kc1 Hc
                go_wp2_with fail
                go_roundw
                case rel => exact ⟨i + 1, by go_num, by have := He.out.2; omega, HPn⟩
                case measure => have := He.out.2; simp [intOf]; omega
            · obtain rfl : i = n1 := by omega
              have Hst9 := Lib.hid hst.out
              clear hst hlt Hst
              generalize wr = wz at *
              have hbz : Below w.heap.size w wz := by
                obtain ⟨_, _, _, _, q, _⟩ := Hst9.out
                exact q.bel
              have Hbz := Lib.hid hbz
              clear hbz
              go_wp2_with fail
              go_loopw [21] (fun jv wr => ∃ j : Nat, jv = .int .i64 ((j + 1 : Nat) : Int) ∧ j ≤ i + 1 ∧ Hid (Below wz.heap.size wz wr)) (fun jv _ => i + 1 - (intOf jv).toNat)
              case atStart => exact ⟨0, rfl, Nat.zero_le _, Below.refl _ _⟩
              case round =>
                obtain ⟨j, rfl, hj, hjb⟩ := hrel
                by_cases hlt : j + 1 < i
                · obtain ⟨f, hf⟩ := Hlen1.out j (by omega)
                  obtain ⟨e, he⟩ := Hlen1.out (j + 1) hlt
                  obtain ⟨b, o, rfl, _, _, _, _⟩ := (Hr.out.2.1.below (Hbz.out.trans (hjb.out.mono Hbz.out.size))) j f hf
                  have Hk6 : Hid (∀ W, Below wz.heap.size wz W → W.cell? ⟨b, o + j * 3, none⟩ = some (.string f.1) ∧ W.cell? ⟨b, o + j * 3 + 1, none⟩ = some (.string f.2.1) ∧ W.cell? ⟨b, o + j * 3 + 2, none⟩ = some (.int .u64 (f.2.2 : Int)) ∧ W.cell? ⟨b, o + (j + 1) * 3, none⟩ = some (.string e.1) ∧ W.cell? ⟨b, o + (j + 1) * 3 + 1, none⟩ = some (.string e.2.1) ∧ W.cell? ⟨b, o + (j + 1) * 3 + 2, none⟩ = some (.int .u64 (e.2.2 : Int))) := fun W hW => by
                    have hW0 : Below w.heap.size w W := Hbz.out.trans (hW.mono Hbz.out.size)
                    obtain ⟨b', o', e', _, q0, q1, q2⟩ := (Hr.out.2.1.below hW0) j f hf
                    cases e'
                    obtain ⟨b', o', e', _, q3, q4, q5⟩ := (Hr.out.2.1.below hW0) (j + 1) e he
                    cases e'
                    exact ⟨q0, q1, q2, q3, q4, q5⟩
                  obtain ⟨cv, hcv⟩ : ∃ cv, cv = cmpE f e := ⟨_, rfl⟩
                  have HC1 : Hid (∀ X, (X = wr ∨ X = wr.drew) → Calls Try.prog 22 #[eV f, eV e] X fun r w' => r = .returned (.int .i64 cv) ∧ Hid (Below wz.heap.size wz w')) := fun X hX => by
                    have hXz : Below wz.heap.size wz X := by rcases hX with rfl | rfl; exact hjb.out; exact hjb.out.drew
                    refine (ecmp_any f e X).mono ?_
                    rintro r w' ⟨rfl, hg⟩
                    exact ⟨by rw [hcv], hXz.trans ((Gr.below hg).mono hXz.size)⟩
                  have HC2 : Hid (∀ Y X, Below wz.heap.size wz Y → (X = Y ∨ X = Y.drew) → Calls Try.prog 23 #[eV f, eV e] X fun r w' => r = .returned (.int .i64 cv) ∧ Hid (Below wz.heap.size wz w')) := fun Y X hY hX => by
                    have hXz : Below wz.heap.size wz X := by rcases hX with rfl | rfl; exact hY; exact hY.drew
                    refine (rcmpE_any f e X).mono ?_
                    rintro r w' ⟨rfl, hg⟩
                    exact ⟨by rw [hcv], hXz.trans ((Gr.below hg).mono hXz.size)⟩
                  have hlt1 : (j : Int) + 1 < (i : Int) := by omega
                  have hlt2 : (j : Int) < (i : Int) := by omega
                  have hjw : IntKind.i64.wrap ((j : Int) + 1 - 1) = (j : Int) := by rw [IntKind.wrap_i64]; omega
                  have hjw2 : IntKind.i64.wrap (j : Int) = (j : Int) := by rw [IntKind.wrap_i64]; omega
                  have hj0 : (0 : Int) ≤ (j : Int) + 1 := by omega
                  have hj1 : ((j : Int) + 1).toNat = j + 1 := by omega
                  have hji : j < i := by omega
                  have Hji : Hid (j + 1 < i) := hlt
                  have k0 := Hk6.out wr hjb.out
                  obtain ⟨k0, k1, k2, k3, k4, k5⟩ := k0
                  unfold eV at HC1 HC2
                  clear hf he hcv hlt
                  go_upto_region 28 with fail
                  go_region_held3 (fun X => X.cell? ⟨b, o + j * 3, none⟩ = some (.string f.1) ∧ X.cell? ⟨b, o + j * 3 + 1, none⟩ = some (.string f.2.1) ∧ X.cell? ⟨b, o + j * 3 + 2, none⟩ = some (.int .u64 (f.2.2 : Int)) ∧ X.cell? ⟨b, o + (j + 1) * 3, none⟩ = some (.string e.1) ∧ X.cell? ⟨b, o + (j + 1) * 3 + 1, none⟩ = some (.string e.2.1) ∧ X.cell? ⟨b, o + (j + 1) * 3 + 2, none⟩ = some (.int .u64 (e.2.2 : Int))) (first | exact ⟨k0, k1, k2, k3, k4, k5⟩ | exact ka | exact kb) (first
                    | (go_at_call 22; refine (HC1.out _ (by first | exact .inl (by with_reducible rfl) | exact .inr (by with_reducible rfl))).mono ?_; rintro e9 wa ⟨rfl, Ha⟩; have ka := Hk6.out wa Ha.out)
                    | (go_at_call 23; refine (HC2.out wa _ Ha.out (by first | exact .inl (by with_reducible rfl) | exact .inr (by with_reducible rfl))).mono ?_; rintro e9 wb ⟨rfl, Hb⟩; have kb := Hk6.out wb Hb.out))
                  go_wp2_with fail
                  go_roundw
                  case rel => exact ⟨j + 1, by go_num, by have := Hji.out; omega, Hb.out⟩
                  case measure => have := Hji.out; simp [intOf]; omega
                · have hlt1 : ¬ (j : Int) + 1 < (i : Int) := by omega
                  obtain ⟨vP, out, vR, L, hP, ht, ho9⟩ := Hst9.out
                  have hPr := hP.below hjb.out
                  obtain ⟨fo, hfo⟩ : ∃ fo, fo = out.filter (ovB klo khi) := ⟨_, rfl⟩
                  have hfl : fo.length ≤ 30000 := by rw [hfo]; exact Nat.le_trans (List.length_filter_le _ _) ho9
                  have HO1 : Hid (Calls Try.prog 24 #[.pointer (some ⟨gP, 0, none⟩), .string klo, .string khi] wr fun r w' => ∃ A c, r = .returned (.slice A fo.length c) ∧ Hid (RE w' w'.heap.size A fo) ∧ Hid (Below wz.heap.size wz w')) := by
                    show Calls _ _ _ _ _
                    refine (pover_any w.heap.size gP out klo khi wr hPr.p.at_ (by omega)).mono ?_
                    rintro r w' ⟨v', rfl, h1, h2⟩
                    rw [← hfo] at h1
                    obtain ⟨A9, c9, rfl, _, _, h3, _⟩ := h1.rd
                    exact ⟨A9, c9, rfl, h3, hjb.out.trans (h2.mono hjb.out.size)⟩
                  have HO2 : Hid (∀ Y, Below wz.heap.size wz Y → Calls Try.prog 25 #[.pointer (some ⟨gR, 0, none⟩), .string klo, .string khi] Y fun r w' => ∃ A c, r = .returned (.slice A fo.length c) ∧ Hid (RE w' w'.heap.size A fo) ∧ Hid (Below Y.heap.size Y w' ∧ Below wz.heap.size wz w')) := fun Y hY => by
                    refine (rover_any w.heap.size gR vR L klo khi Y ((hP.below hY).r)).mono ?_
                    rintro r w' ⟨v', ls, rfl, h1, hp, h2⟩
                    have e9 := list_eq hp hP.p.plain ht
                    rw [e9, ← hfo] at h1
                    obtain ⟨A9, c9, rfl, _, _, h3, _⟩ := h1.rd
                    exact ⟨A9, c9, rfl, h3, h2, hY.trans (h2.mono hY.size)⟩
                  have HL1 : Hid (∀ Y, Below wz.heap.size wz Y → Calls Try.prog 17 #[.pointer (some ⟨gP, 0, none⟩)] Y fun r w' => ∃ A c, r = .returned (.slice A out.length c) ∧ Hid (RE w' w'.heap.size A out) ∧ Hid (Below wz.heap.size wz w')) := fun Y hY => by
                    refine ((hP.below hY).lst1).mono ?_
                    rintro r w' ⟨A', c', rfl, h1, h2⟩
                    exact ⟨A', c', rfl, h1, hY.trans (h2.mono hY.size)⟩
                  have HL2 : Hid (∀ Y, Below wz.heap.size wz Y → Calls Try.prog 18 #[.pointer (some ⟨gR, 0, none⟩)] Y fun r w' => ∃ A c, r = .returned (.slice A out.length c) ∧ Hid (RE w' w'.heap.size A out) ∧ Hid (Below Y.heap.size Y w' ∧ Below wz.heap.size wz w')) := fun Y hY => by
                    refine ((hP.below hY).lst2 ht).mono ?_
                    rintro r w' ⟨A', c', rfl, h1, h2, _⟩
                    exact ⟨A', c', rfl, h1, h2, hY.trans (h2.mono hY.size)⟩
                  have HS : Hid (∀ (xs : List Ec) A3 c3 A4 c4 Y, xs.length ≤ 30000 → Below wz.heap.size wz Y → RE Y Y.heap.size A3 xs → RE Y Y.heap.size A4 xs → Calls Try.prog 16 #[.slice A3 xs.length c3, .slice A4 xs.length c4] Y fun r w' => r = .returned (.bool true) ∧ Hid (Below wz.heap.size wz w')) := fun xs A3 c3 A4 c4 Y hx hY h3 h4 => by
                    refine (sameE_any A3 A4 c3 c4 xs xs Y (by omega) (by omega) h3 h4).mono ?_
                    rintro r w' ⟨rfl, h2⟩
                    exact ⟨by rw [decide_eq_true rfl], hY.trans (h2.mono hY.size)⟩
                  have Hol : Hid (out.length ≤ 30000 ∧ fo.length ≤ 30000) := ⟨ho9, hfl⟩
                  clear hP ht ho9 hPr hfo hfl hlt Hst9
                  go_wp2_with fail
                  refine HO1.out.mono ?_
                  rintro r wa ⟨A3, c3, rfl, r3, Ha⟩
                  go_wp2_with fail
                  refine (HO2.out wa Ha.out).mono ?_
                  rintro r wb ⟨A4, c4, rfl, r4, Hb⟩
                  have r3 := Lib.hid (r3.out.now Hb.out.1)
                  go_wp2_with fail
                  refine (HS.out fo A3 c3 A4 c4 wb Hol.out.2 Hb.out.2 r3.out r4.out).mono ?_
                  rintro r wc ⟨rfl, Hc⟩
                  go_wp2_with fail
                  refine (HL1.out wc Hc.out).mono ?_
                  rintro r wd ⟨A5, c5, rfl, r5, Hd⟩
                  go_wp2_with fail
                  refine (HL2.out wd Hd.out).mono ?_
                  rintro r we ⟨A6, c6, rfl, r6, He⟩
                  have r5 := Lib.hid (r5.out.now He.out.1)
                  go_wp2_with fail
                  refine (HS.out out A5 c5 A6 c6 we Hol.out.1 He.out.2 r5.out r6.out).mono ?_
                  rintro r wf ⟨rfl, Hf⟩
                  have H9 : Hid (Below w.heap.size w wf) := Hbz.out.trans (Hf.out.mono Hbz.out.size)
                  go_wp2_with fail
                  go_ret
                  exact ⟨rfl, H9.out⟩
        · rw [Hok.out.1] at h; cases h
end
end Go.Proofs.Ytghcfmkmndldoaa
