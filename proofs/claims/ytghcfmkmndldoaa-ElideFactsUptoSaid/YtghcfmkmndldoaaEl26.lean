/-
  ElideFacts: the walk.
-/
import Derived.Test.YtghcfmkmndldoaaEl25
import Derived.Test.YtghcfmkmndldoaaEl14
import Derived.Test.YtghcfmkmndldoaaEl18
namespace Go.Proofs.Ytghcfmkmndldoaa
open Go.RowKit Go.Sort Go.Lib

def zeroFc : Fc := (⟨#[]⟩, 0, [])
theorem zeroFV_eq : zeroFV = fcV zeroFc (.slice none 0 0) := rfl
theorem Vb.zero (w : World) (B : Nat) : Vb w B (.slice none 0 0) zeroFc.2.2 := ⟨none, 0, rfl, Nat.le_refl _, fun _ => rfl, RB.nil _ _ _⟩
section
set_option maxRecDepth 100000
set_option maxHeartbeats 16000000
theorem facts_any (A : Option Addr) (c : Nat) (es : List Ec) (A2 : Option Addr) (c2 : Nat) (fs : List Fc) (w : World) (hr : RE w w.heap.size A es) (hc : es.length ≤ c) (hl : es.length ≤ 1099511627776) (hs : sumE es ≤ 4611686018427387904)
    (hr2 : RF w w.heap.size A2 fs) (hl2 : fs.length ≤ 1099511627776) (hs2 : sumF fs ≤ 4611686018427387904) :
    Calls Try.prog 4 #[.slice A es.length c, .slice A2 fs.length c2] w fun e w' => e = .returned (.bool true) ∧ Below w.heap.size w w' := by
  have HK := Lib.hid (known_any w)
  have HF : Hid (∀ W, Below w.heap.size w W → Calls Try.prog 8 #[.slice A es.length c] W fun e w' => e = .returned (.bool (decide (es.length ≤ 120) && decide (sumE es ≤ 16384))) ∧ Below w.heap.size w w') := fun W hW => by
    refine (fewE_any A c es W hl hs (hr.now hW)).mono ?_
    rintro e w' ⟨rfl, hb⟩
    exact ⟨rfl, hW.trans (hb.mono hW.size)⟩
  have HF2 : Hid (∀ W, Below w.heap.size w W → Calls Try.prog 26 #[.slice A2 fs.length c2, .int .i64 200] W fun e w' => e = .returned (.bool (decide ((fs.length : Int) ≤ 200) && decide (sumF fs ≤ 131072))) ∧ Below w.heap.size w w') := fun W hW => by
    refine (few_any A2 c2 fs 200 W hl2 hs2 (hr2.now hW)).mono ?_
    rintro e w' ⟨rfl, hb⟩
    exact ⟨rfl, hW.trans (hb.mono hW.size)⟩
  have Hr : Hid (RE w w.heap.size A es ∧ RF w w.heap.size A2 fs) := ⟨hr, hr2⟩
  obtain ⟨n, hn⟩ : ∃ n, n = es.length := ⟨_, rfl⟩
  obtain ⟨m, hm⟩ : ∃ m, m = fs.length := ⟨_, rfl⟩
  have hl' : (n : Int) ≤ 1099511627776 := by omega
  have HN : Hid (n ≤ 120 → okAll es = true → ∀ W, Below w.heap.size w W → Calls Try.prog 10 #[.slice A n c] W fun r w' => Below W.heap.size W w' ∧ ∃ g out, r = .returned (.tuple #[.pointer (some ⟨g, 0, none⟩), .int .i64 0]) ∧ SetAt w' W.heap.size g out ∧ topE out = topE es) := fun h120 hok W hW => by
    rw [hn]
    refine (new_any A c es W (hr.now hW) hc (by omega)).mono ?_
    rintro r w' ⟨hb, ⟨h1, g, out, rfl, h2, h3, h4⟩ | ⟨h, _⟩⟩
    · exact ⟨hb, g, out, rfl, h2, funext h3⟩
    · rw [hok] at h; cases h
  have HA : Hid (n ≤ 120 → ∀ (W : World) (g i : Nat) (v : Value) (e : Ec), es[i]? = some e → RefSet W w.heap.size g v (es.take i) → Below w.heap.size w W → w.heap.size ≤ g → Calls Try.prog 9 #[.pointer (some ⟨g, 0, none⟩), eV e] W fun r w' => r = .returned (.int .i64 (chkE e)) ∧ Below w.heap.size w w' ∧ (chkE e = 0 → ∃ v', RefSet w' w.heap.size g v' (es.take (i + 1)))) := fun h120 W g i v e he hR hW hg => by
    refine (radd_any e w.heap.size g v (es.take i) W hR hW.size (by have := List.length_take_le i es; have := List.length_take_le' i es; omega)).mono ?_
    rintro r w' ⟨rfl, h1, hk⟩
    refine ⟨rfl, ⟨hk.os.trans hW.os, hk.tape.trans hW.tape, hk.output.trans hW.output, Nat.le_trans hW.size hk.size, fun b hb => (hk.block b (Nat.lt_of_lt_of_le hb hW.size) ⟨by omega, fun q => by have := (hR.own.ge b q).1; omega⟩).trans (hW.block b hb)⟩, fun h0 => ?_⟩
    rcases h1 with ⟨_, v', h2, _⟩ | ⟨h2, _⟩
    · exact ⟨v', by rw [List.take_add_one, he]; exact h2⟩
    · rw [h0] at h2; cases h2
  have Hlen : Hid (∀ k : Nat, k < n → ∃ u, es[k]? = some u) := fun k hk => ⟨_, List.getElem?_eq_getElem (by omega)⟩
  rw [← hn] at HF ⊢
  rw [← hm] at HF2 ⊢
  have Hn := Lib.hid hn
  have Hm := Lib.hid hm
  generalize hqq : (decide (n ≤ 120) && decide (sumE es ≤ 16384)) = q at HF
  have Hq := Lib.hid hqq
  generalize hqq2 : (decide ((m : Int) ≤ 200) && decide (sumF fs ≤ 131072)) = q2 at HF2
  have Hq2 := Lib.hid hqq2
  clear hr hc hl hs hn hqq hr2 hl2 hs2 hm hqq2
  go_enter Try.func4, Try.ntmps4
  go_wp2_with fail
  refine HK.out.mono ?_
  rintro e w1 ⟨rfl, hb1⟩
  have H1 := Lib.hid hb1
  clear hb1 HK
  go_wp2_with fail
  refine (HF.out w1 H1.out).mono ?_
  rintro e w2 ⟨rfl, hb2⟩
  have H2 := Lib.hid hb2
  clear hb2 HF H1
  cases q with
  | false =>
    go_wp2_with fail
    go_ret
    exact ⟨rfl, H2.out⟩
  | true =>
  have H120 : Hid (n ≤ 120) := by
    show _ ≤ _
    have := Hq.out
    simp only [Bool.and_eq_true, decide_eq_true_eq] at this
    exact this.1
  clear Hq
  go_wp2_with fail
  refine (HF2.out w2 H2.out).mono ?_
  rintro e w3 ⟨rfl, hb3⟩
  have H3 := Lib.hid hb3
  clear hb3 HF2 H2
  cases q2 with
  | false =>
    go_wp2_with fail
    go_ret
    exact ⟨rfl, H3.out⟩
  | true =>
  have H200 : Hid (m ≤ 200 ∧ sumF fs ≤ 131072) := by
    have := Hq2.out
    simp only [Bool.and_eq_true, decide_eq_true_eq] at this
    exact ⟨by omega, this.2⟩
  clear Hq2
  have H0 : Hid (RefSet (w3.alloc (.cells #[.slice none 0 0] 29)) w.heap.size w3.heap.size (.slice none 0 0) (es.take 0) ∧ Below w.heap.size w (w3.alloc (.cells #[.slice none 0 0] 29)) ∧ w.heap.size ≤ w3.heap.size) :=
    ⟨⟨Cells.new w3 _ _, OwnE.nil _ _, by simp⟩, H3.out.alloc H3.out.size _, H3.out.size⟩
  clear H3
  go_wp2_with fail
  generalize w3.heap.size = g at *
  go_loopw [6] (fun iv wr => ∃ i : Nat, iv = .int .i64 (i : Int) ∧ i ≤ n ∧ Hid ((∃ v, RefSet wr w.heap.size g v (es.take i)) ∧ Below w.heap.size w wr ∧ ∀ j e, j < i → es[j]? = some e → kl e.1 e.2.1)) (fun iv _ => n - (intOf iv).toNat)
  case atStart => exact ⟨0, rfl, Nat.zero_le _, ⟨_, H0.out.1⟩, H0.out.2.1, fun j e hj => absurd hj (Nat.not_lt_zero _)⟩
  case round =>
    obtain ⟨i, rfl, hi, hst⟩ := hrel
    by_cases hlt : i < n
    · obtain ⟨e, he⟩ := Hlen.out i hlt
      obtain ⟨b, o, rfl, hblt, x0, x1, x2⟩ := (Hr.out.1.below hst.out.2.1) i e he
      obtain ⟨v, hv⟩ := hst.out.1
      have hlt' : (i : Int) < (n : Int) := by omega
      have HCa := Lib.hid (HA.out H120.out wr g i v e he hv hst.out.2.1 H0.out.2.2)
      have He : Hid (es[i]? = some e ∧ i + 1 ≤ n ∧ i < n) := ⟨he, by omega, hlt⟩
      have Hz := Lib.hid (chk_zero (e := e))
      unfold eV at HCa
      have hce : chkE e = 0 ∨ chkE e = 1 := by unfold chkE; split <;> simp
      clear he hblt hlt hv
      go_wp2_with fail
      refine HCa.out.mono ?_
      rintro r w4 ⟨rfl, hb4, h4⟩
      have H4 := Lib.hid hb4
      have H5 := Lib.hid h4
      clear hb4 h4 HCa
      rcases hce with hce | hce
      · have Hk := Lib.hid (Hz.out.1 hce)
        have Hv := Lib.hid (H5.out hce)
        rw [hce]
        clear hce Hz H5
        go_wp2_with fail
        go_roundw
        case rel =>
          refine ⟨i + 1, by go_num, He.out.2.1, Hv.out, H4.out, fun j f hj hf => ?_⟩
          rcases Nat.lt_or_ge j i with q | q
          · exact hst.out.2.2 j f q hf
          · obtain rfl : j = i := by omega
            rw [He.out.1] at hf
            cases hf
            exact Hk.out
        case measure => have := He.out.2.2; simp [intOf]; omega
      · rw [hce]
        clear hce Hz H5
        go_wp2_with fail
        go_ret
        exact ⟨rfl, H4.out⟩
    · obtain rfl : i = n := by omega
      obtain ⟨v, hv⟩ := hst.out.1
      rw [List.take_of_length_le (by have := Hn.out; omega)] at hv
      have Hok : Hid (okAll es = true) := okAll_iff.2 fun e he => by
        obtain ⟨j, hj⟩ := List.getElem?_of_mem he
        exact hst.out.2.2 j e (by have := (List.getElem?_eq_some_iff.1 hj).1; have := Hn.out; omega) hj
      have H4 : Hid (RefSet wr w.heap.size g v es ∧ Below w.heap.size w wr) := ⟨hv, hst.out.2.1⟩
      have HN2 := Lib.hid (HN.out H120.out Hok.out wr hst.out.2.1)
      have hvl : ∀ f ∈ fs, f.2.2.length ≤ 1099511627776 := fun f hf => by have := sumF_mem hf; have := H200.out.2; omega
      have Hfs : Hid (RF w w.heap.size A2 fs ∧ m ≤ 200 ∧ (∀ f ∈ fs, f.2.2.length ≤ 1099511627776) ∧ m = fs.length) := ⟨Hr.out.2, H200.out.1, hvl, Hm.out⟩
      clear hst hv HN Hok HA H0 Hlen hlt hvl Hr Hn Hm H200 H120
      generalize wr = w4 at *
      go_wp2_with fail
      refine HN2.out.mono ?_
      rintro r w5 ⟨hb5, g2, out, rfl, hs5, ht5⟩
      have H5 : Hid (RefSet w5 w.heap.size g v es ∧ SetAt w5 w4.heap.size g2 out ∧ topE out = topE es ∧ Below w.heap.size w w5) := ⟨H4.out.1.below hb5, hs5, ht5, H4.out.2.trans (hb5.mono H4.out.2.size)⟩
      clear hb5 hs5 ht5 HN2 H4
      generalize w4.heap.size = base at *
      obtain ⟨f0, hf0⟩ : ∃ f0, f0 = (newF (topE es) fs).getD zeroFc := ⟨_, rfl⟩
      obtain ⟨d, hd⟩ : ∃ d, d = (newF (topE es) fs).isSome := ⟨_, rfl⟩
      have HNp : Hid (Calls Try.prog 27 #[.pointer (some ⟨g2, 0, none⟩), .slice A2 m c2] w5 fun r w' => ∃ V, r = .returned (.tuple #[fcV f0 V, .bool d]) ∧ Vb w' w'.heap.size V f0.2.2 ∧ Below w5.heap.size w5 w') := by
        show Calls _ _ _ _ _
        rw [Hfs.out.2.2.2]
        refine (newest_any g2 base out A2 c2 fs w5 H5.out.2.1 (Hfs.out.1.now H5.out.2.2.2) (by have := Hfs.out.2.1; have := Hfs.out.2.2.2; omega) Hfs.out.2.2.1).mono ?_
        rintro r w' ⟨hb, ⟨hn9, rfl⟩ | ⟨f, V, hn9, rfl, hV⟩⟩
        · rw [H5.out.2.2.1] at hn9
          rw [hn9] at hf0 hd
          cases hf0
          cases hd
          exact ⟨_, rfl, Vb.zero _ _, hb⟩
        · rw [H5.out.2.2.1] at hn9
          rw [hn9] at hf0 hd
          cases hf0
          cases hd
          exact ⟨V, rfl, Vb.own hV, hb⟩
      have HNr : Hid (∀ W, Below w5.heap.size w5 W → Calls Try.prog 28 #[.pointer (some ⟨g, 0, none⟩), .slice A2 m c2] W fun r w' => ∃ V, r = .returned (.tuple #[fcV f0 V, .bool d]) ∧ Vb w' w'.heap.size V f0.2.2 ∧ Below W.heap.size W w') := fun W hW => by
        have hwW : Below w.heap.size w W := H5.out.2.2.2.trans (hW.mono H5.out.2.2.2.size)
        rw [Hfs.out.2.2.2]
        refine (rnewest_any w.heap.size g v es A2 c2 fs W (H5.out.1.below hW) (Hfs.out.1.now hwW) (by have := Hfs.out.2.1; have := Hfs.out.2.2.2; omega)).mono ?_
        rintro r w' ⟨hb, ⟨hn9, rfl⟩ | ⟨f, V, hn9, rfl, hV⟩⟩
        · rw [hn9] at hf0 hd
          cases hf0
          cases hd
          exact ⟨_, rfl, Vb.zero _ _, hb⟩
        · rw [hn9] at hf0 hd
          cases hf0
          cases hd
          exact ⟨V, rfl, (hV.below hb).wide hb.size, hb⟩
      obtain ⟨ys, hys⟩ : ∃ ys, ys = if rightF fs = true then filtN (topE es) fs fs.length else [] := ⟨_, rfl⟩
      obtain ⟨code, hcode⟩ : ∃ code : Int, code = if rightF fs = true then 0 else 25 := ⟨_, rfl⟩
      have hyl : ys.length ≤ 200 := by
        rw [hys]
        split
        · have := filt_len (topE es) fs fs.length; have := Hfs.out.2.1; have := Hfs.out.2.2.2; omega
        · simp
      have HFp : Hid (∀ W, Below w5.heap.size w5 W → Calls Try.prog 30 #[.pointer (some ⟨g2, 0, none⟩), .slice A2 m c2] W fun r w' => ∃ A' c', r = .returned (.tuple #[.slice A' ys.length c', .int .i64 code]) ∧ RF w' w'.heap.size A' ys ∧ Below W.heap.size W w') := fun W hW => by
        have hwW : Below w.heap.size w W := H5.out.2.2.2.trans (hW.mono H5.out.2.2.2.size)
        rw [Hfs.out.2.2.2]
        refine (filter_any g2 base out A2 c2 fs W (H5.out.2.1.below hW) (Hfs.out.1.now hwW) (by have := Hfs.out.2.1; have := Hfs.out.2.2.2; omega) Hfs.out.2.2.1).mono ?_
        rintro r w' ⟨hb, ⟨hn9, rfl⟩ | ⟨hn9, u, rfl, hu⟩⟩
        · rw [hn9] at hys hcode
          cases hys
          cases hcode
          exact ⟨none, 0, rfl, RF.nil _ _ _, hb⟩
        · rw [H5.out.2.2.1] at hu
          rw [hn9, if_pos rfl] at hys hcode
          rw [hys, hcode]
          obtain ⟨A', c', rfl, _, _, hru, _⟩ := hu.rd
          exact ⟨A', c', rfl, hru, hb⟩
      have HFr : Hid (∀ W, Below w5.heap.size w5 W → Calls Try.prog 31 #[.pointer (some ⟨g, 0, none⟩), .slice A2 m c2] W fun r w' => ∃ A' c', r = .returned (.tuple #[.slice A' ys.length c', .int .i64 code]) ∧ RF w' w'.heap.size A' ys ∧ Below W.heap.size W w') := fun W hW => by
        have hwW : Below w.heap.size w W := H5.out.2.2.2.trans (hW.mono H5.out.2.2.2.size)
        rw [Hfs.out.2.2.2]
        refine (rfilter_any w.heap.size g v es A2 c2 fs W (H5.out.1.below hW) (Hfs.out.1.now hwW) (by have := Hfs.out.2.1; have := Hfs.out.2.2.2; omega)).mono ?_
        rintro r w' ⟨hb, ⟨hn9, rfl⟩ | ⟨hn9, u, rfl, hu⟩⟩
        · rw [hn9] at hys hcode
          cases hys
          cases hcode
          exact ⟨none, 0, rfl, RF.nil _ _ _, hb⟩
        · rw [hn9, if_pos rfl] at hys hcode
          rw [hys, hcode]
          obtain ⟨A', c', rfl, _, _, hru, _⟩ := RowF.rd hu fun V x hV => (hV.below hb).wide hb.size
          exact ⟨A', c', rfl, hru, hb⟩
      have hcc : code = 0 ∨ code = 25 := by rw [hcode]; split <;> simp
      have HS : Hid (∀ (V V' : Value) (W : World), Vb W W.heap.size V f0.2.2 → Vb W W.heap.size V' f0.2.2 → Calls Try.prog 29 #[fcV f0 V, fcV f0 V'] W fun e w' => e = .returned (.bool true) ∧ Below W.heap.size W w') := fun V V' W h1 h2 => by
        refine (same_anyF f0 f0 V V' W h1 h2).mono ?_
        rintro e w' ⟨rfl, hg⟩
        exact ⟨by rw [decide_eq_true rfl], hg.below⟩
      have HR : Hid (∀ A1 c1 A3 c3 (W : World), RF W W.heap.size A1 ys → RF W W.heap.size A3 ys → Calls Try.prog 32 #[.slice A1 ys.length c1, .slice A3 ys.length c3] W fun e w' => e = .returned (.bool true) ∧ Below W.heap.size W w') := fun A1 c1 A3 c3 W h1 h2 => by
        refine (sameRows_any A1 A3 c1 c3 ys ys W (by omega) (by omega) h1 h2).mono ?_
        rintro e w' ⟨rfl, hg⟩
        exact ⟨by rw [decide_eq_true rfl], hg.below⟩
      have Hw5 : Hid (Below w.heap.size w w5) := H5.out.2.2.2
      clear H5 Hfs hf0 hd hys hcode hyl
      unfold fcV at HNp HNr HS
      obtain ⟨k0, s0, x0⟩ := f0
      dsimp only at HNp HNr HS
      go_wp2_with fail
      refine HNp.out.mono ?_
      rintro r w6 ⟨V6, rfl, hv6, hb6⟩
      obtain ⟨A6, c6, rfl, h6⟩ := hv6
      have hv6 : Vb w6 w6.heap.size (.slice A6 x0.length c6) x0 := ⟨A6, c6, rfl, h6⟩
      have hbb : Below w6.heap.size w6 (w6.alloc (.cells #[.string k0, .int .u64 (s0 : Int), .slice A6 x0.length c6] 50)) := (Below.refl _ _).alloc (Nat.le_refl _) _
      have H6 : Hid (Below w5.heap.size w5 (w6.alloc (.cells #[.string k0, .int .u64 (s0 : Int), .slice A6 x0.length c6] 50)) ∧ Cells (w6.alloc (.cells #[.string k0, .int .u64 (s0 : Int), .slice A6 x0.length c6] 50)) w6.heap.size 50 [.string k0, .int .u64 (s0 : Int), .slice A6 x0.length c6] ∧ Vb (w6.alloc (.cells #[.string k0, .int .u64 (s0 : Int), .slice A6 x0.length c6] 50)) (w6.alloc (.cells #[.string k0, .int .u64 (s0 : Int), .slice A6 x0.length c6] 50)).heap.size (.slice A6 x0.length c6) x0) :=
        ⟨hb6.trans (hbb.mono hb6.size), Cells.new _ _ _, (hv6.below hbb).wide hbb.size⟩
      have HNr2 := Lib.hid (HNr.out _ H6.out.1)
      clear hv6 h6 hbb hb6 HNr HNp
      go_wp2_with fail
      refine HNr2.out.mono ?_
      rintro r w7 ⟨V7, rfl, hv7, hb7⟩
      obtain ⟨A7, c7, rfl, h7⟩ := hv7
      have hv7 : Vb w7 w7.heap.size (.slice A7 x0.length c7) x0 := ⟨A7, c7, rfl, h7⟩
      obtain ⟨W8, hW8⟩ : ∃ W8, W8 = w7.alloc (.cells #[.string k0, .int .u64 (s0 : Int), .slice A7 x0.length c7] 50) := ⟨_, rfl⟩
      have hbb : Below w7.heap.size w7 W8 := by rw [hW8]; exact (Below.refl _ _).alloc (Nat.le_refl _) _
      have hC8 : Cells W8 w7.heap.size 50 [.string k0, .int .u64 (s0 : Int), .slice A7 x0.length c7] := by rw [hW8]; exact Cells.new _ _ _
      have hb68 := hb7.trans (hbb.mono hb7.size)
      have hC6 := H6.out.2.1.move (hb68.block _ H6.out.2.1.lt)
      have HS2 := Lib.hid (HS.out _ _ W8 ((H6.out.2.2.below hb68).wide hb68.size) ((hv7.below hbb).wide hbb.size))
      have H8 : Hid (Below w5.heap.size w5 W8) := H6.out.1.trans (hb68.mono H6.out.1.size)
      have m0 := hC6.cell (i := 0) rfl
      have m1 := hC6.cell (i := 1) rfl
      have m2 := hC6.cell (i := 2) rfl
      have n0 := hC8.cell (i := 0) rfl
      have n1 := hC8.cell (i := 1) rfl
      have n2 := hC8.cell (i := 2) rfl
      clear hv7 h7 hbb hb7 hb68 hC6 hC8 H6 HS HNr2
      have hdd : (d != d) = false := by simp
      go_upto_region 16 with fail
      rw [← hW8]
      generalize w6.heap.size = b6 at *
      generalize w7.heap.size = b7 at *
      clear hW8
      go_wp2_with fail
      refine HS2.out.mono ?_
      rintro r w9 ⟨rfl, hb9⟩
      have H9 : Hid (Below w5.heap.size w5 w9) := H8.out.trans (hb9.mono H8.out.size)
      have HFp2 := Lib.hid (HFp.out w9 H9.out)
      clear m0 m1 m2 n0 n1 n2 hb9 H8 HS2 HFp
      go_wp2_with fail
      refine HFp2.out.mono ?_
      rintro r w10 ⟨A10, c10, rfl, hr10, hb10⟩
      have H10 : Hid (Below w5.heap.size w5 w10 ∧ RF w10 w10.heap.size A10 ys) := ⟨H9.out.trans (hb10.mono H9.out.size), hr10⟩
      have HFr2 := Lib.hid (HFr.out w10 H10.out.1)
      clear hr10 hb10 HFr HFp2 H9
      go_wp2_with fail
      refine HFr2.out.mono ?_
      rintro r w11 ⟨A11, c11, rfl, hr11, hb11⟩
      have H11 : Hid (Below w5.heap.size w5 w11) := H10.out.1.trans (hb11.mono H10.out.1.size)
      have HR2 := Lib.hid (HR.out A10 c10 A11 c11 w11 (H10.out.2.now hb11) hr11)
      clear hr11 hb11 HR HFr2 H10
      go_wp2_with fail
      refine HR2.out.mono ?_
      rintro r w12 ⟨rfl, hb12⟩
      have H12 : Hid (Below w.heap.size w w12) := Hw5.out.trans ((H11.out.trans (hb12.mono H11.out.size)).mono Hw5.out.size)
      clear hb12 HR2 H11
      rcases hcc with rfl | rfl
      all_goals
        go_wp2_with fail
        go_ret
        exact ⟨rfl, H12.out⟩
end
end Go.Proofs.Ytghcfmkmndldoaa
