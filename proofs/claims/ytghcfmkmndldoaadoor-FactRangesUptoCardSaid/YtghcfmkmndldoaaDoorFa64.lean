/-
  FactRanges: the walk.
-/
import Derived.Test.YtghcfmkmndldoaaDoorKFa54
import Derived.Test.YtghcfmkmndldoaaDoorFaOpen4
import Derived.Test.YtghcfmkmndldoaaDoorFa60
namespace Go.Proofs.YtghcfmkmndldoaaDoor
open Go.RowKit Go.Sort Go.Lib

theorem RSF.below {w w' : World} {B : Nat} {A : Option Addr} {ls : List ByteArray} (h : RSF w B A ls) (hb : Below B w w') : RSF w' B A ls := fun k z hk => by
  obtain ⟨b, o, e, hlt, h0⟩ := h k z hk
  exact ⟨b, o, e, hlt, (hb.cell hlt).trans h0⟩
theorem rest_snoc (lo : ByteArray) {fs : List Fc} {i : Nat} {f : Fc} (h : fs[i]? = some f) : (fs.take (i + 1)).filter (fun f => !lessK lo f) = (fs.take i).filter (fun f => !lessK lo f) ++ if (!lessK lo f) = true then [f] else [] := by
  rw [take_snoc h, List.filter_append]
  congr 1
  by_cases q : (!lessK lo f) = true
  · rw [if_pos q, List.filter_cons, if_pos q, List.filter_nil]
  · rw [if_neg q, List.filter_cons, if_neg q, List.filter_nil]
/-- a stretch's first and last, of one key -/
def OneKey (sm : List Fc) (k : ByteArray) (u : Fc) : Prop := sm[0]? = some u ∧ u.1 = k ∧ 0 < sm.length ∧ ∃ z, sm[sm.length - 1]? = some z ∧ z.1 = k
theorem oneKey {fs : List Fc} (h : fs.Pairwise Ahead) {k k0 : ByteArray} (h0 : k0.toList = k.toList ++ [0]) {f : Fc} (hf : f ∈ fs) (hk : f.1 = k) : ∃ u, OneKey (rangeF k k0 fs) k u ∧ fs[cntF fs k]? = some u := by
  obtain ⟨u, h1, h2, h3⟩ := own_first h h0 hf hk
  have hl : 0 < (rangeF k k0 fs).length := (List.getElem?_eq_some_iff.1 h1).1
  have hz : (rangeF k k0 fs)[(rangeF k k0 fs).length - 1]? = some ((rangeF k k0 fs)[(rangeF k k0 fs).length - 1]'(by omega)) := List.getElem?_eq_getElem _
  exact ⟨u, ⟨h1, h2, hl, _, hz, own_keys h0 _ (List.getElem_mem _)⟩, h3⟩
/-- a key and a zero byte -/
theorem key0_list (k : ByteArray) : (k ++ (⟨#[0]⟩ : ByteArray)).toList = k.toList ++ [0] := by
  rw [list_of_array, list_of_array]
  simp [ByteArray.data_append]
section
set_option maxRecDepth 100000
set_option maxHeartbeats 64000000
theorem ranges_any (A : Option Addr) (c : Nat) (fs : List Fc) (block : Int) (L : Option Addr) (cc : Nat) (cuts : List ByteArray) (w : World) (ht : Tab w) (h : ArgF w A c fs) (hL : RSF w w.heap.size L cuts) :
    Calls Tryd.prog 11 #[.slice A fs.length c, .int .i64 block, .slice L cuts.length cc] w fun e w' => e = .returned (.bool true) ∧ Below w.heap.size w w' := by
  have HK := Lib.hid (known11_any w ht)
  obtain ⟨n, hn⟩ : ∃ n, n = fs.length := ⟨_, rfl⟩
  obtain ⟨nc, hnc⟩ : ∃ nc, nc = cuts.length := ⟨_, rfl⟩
  have HF := Lib.hid (argF_few2 h n hn 200)
  have Hfit := Lib.hid (fun q => argF_fit h (show (200 : Int) ≤ 400 by decide) q)
  have HR := Lib.hid (argF_right h n hn)
  obtain ⟨nb, hnb⟩ : ∃ nb, nb = (buildB fs block).length := ⟨_, rfl⟩
  have HB1 := Lib.hid (fun hs => argF_build h ht hs n hn block nb hnb)
  have Htwo := Lib.hid (fun hr => buildE_two (fs := fs) (block := block) hr)
  have HA : Hid (RF w w.heap.size A fs) := h.1
  have HLc : Hid (∀ k, k < nc → ∃ z, cuts[k]? = some z) := fun k hk => ⟨_, List.getElem?_eq_getElem (by omega)⟩
  have HL := Lib.hid hL
  have Hlen : Hid (∀ k : Nat, k < n → ∃ u, fs[k]? = some u) := fun k hk => ⟨_, List.getElem?_eq_getElem (by omega)⟩
  have hl' : (n : Int) ≤ 1099511627776 := by have := h.2.2.1; omega
  have Hn2 : Hid (n ≤ 1048576) := by show _ ≤ _; have := h.2.2.1; omega
  have HO : Hid (SFit fs → rightF fs = true → buildE fs block = 0 → ∀ W A' c', Below w.heap.size w W → RB W W.heap.size A' (buildB fs block) → nb ≤ c' → Calls Tryd.prog 30 #[.slice A' nb c'] W fun e w' => ∃ g A2 c2, e = .returned (.tuple #[.pointer (some ⟨g, 0, none⟩), .int .i64 0]) ∧ TabL w' g A2 c2 fs ∧ Below W.heap.size W w') := fun hs hr he W A' c' hW hrb hc => by
    obtain ⟨q1, q2⟩ := back_open hs hr he
    rw [hnb] at hc ⊢
    refine Calls.mono (open_any A' c' (buildB fs block) W (ht.below hW ht.pos) hrb (by omega) hc) ?_
    rintro e w' ⟨v, rfl, ho, hb⟩
    obtain ⟨g, A2, c2, rfl, _, hT⟩ := TabL.of_open ho (by rw [q1]) (by omega)
    rw [q1] at hT
    exact ⟨g, A2, c2, by rw [q1]; rfl, hT, hb⟩
  rw [← hn, ← hnc]
  have Hnb := Lib.hid hnb
  have Hn := Lib.hid hn
  generalize buildE fs block = eb at *
  generalize buildB fs block = bb at *
  generalize (decide ((fs.length : Int) ≤ 200) && decide (sumF fs ≤ 131072)) = q at HF Hfit
  generalize rightF fs = r at *
  clear hn hnb hnc h ht hL
  go_enter Tryd.func11, Tryd.ntmps11
  go_wp2_with fail
  refine HK.out.mono ?_
  rintro e w1 ⟨rfl, hb1⟩
  have H1 := Lib.hid hb1
  clear hb1 HK
  go_wp2_with fail
  refine (HF.out w1 H1.out).mono ?_
  rintro e w2 ⟨rfl, hb2⟩
  have H2 := Lib.hid hb2
  clear hb2 HF H1
  cases q with
  | false =>
    go_wp2_with fail
    go_ret
    exact ⟨rfl, H2.out⟩
  | true =>
  have Hs := Lib.hid (Hfit.out rfl)
  go_wp2_with fail
  refine (HR.out w2 H2.out).mono ?_
  rintro e w3 ⟨rfl, hb3⟩
  have H3 := Lib.hid hb3
  clear hb3 HR H2 Hfit
  cases r with
  | false =>
    go_wp2_with fail
    go_ret
    exact ⟨rfl, H3.out⟩
  | true =>
  by_cases h30 : (nc : Int) > 30
  · go_wp2_with fail
    go_ret
    exact ⟨rfl, H3.out⟩
  have hcl' : (nc : Int) ≤ 30 := by omega
  by_cases hk1 : block < 1
  · go_wp2_with fail
    go_ret
    exact ⟨rfl, H3.out⟩
  by_cases hk2 : block > 1048576
  · go_wp2_with fail
    go_ret
    exact ⟨rfl, H3.out⟩
  have HO2 := Lib.hid (HO.out Hs.out rfl)
  have Htwo2 := Lib.hid (Htwo.out rfl ⟨by omega, by omega⟩)
  clear HO Htwo
  go_wp2_with fail
  refine (HB1.out Hs.out w3 H3.out).mono ?_
  rintro e w4 ⟨A4, c4, rfl, ho4, hb4⟩
  have H4 : Hid (Own w4 w3.heap.size (.slice A4 nb c4) bb ∧ Below w.heap.size w w4 ∧ w.heap.size ≤ w3.heap.size) := ⟨ho4, H3.out.trans (hb4.mono H3.out.size), H3.out.size⟩
  clear ho4 hb4 HB1 H3 h30 hk1 hk2
  rcases Htwo2.out with he | he
  case inr =>
    subst he
    clear HO2
    go_wp2_with fail
    go_ret
    exact ⟨rfl, H4.out.2.1⟩
  subst he
  obtain ⟨A5, c5, e5, hc5, hr5, _⟩ := H4.out.1.rb
  cases e5
  rw [← Hnb.out] at hc5
  have HO4 := Lib.hid (HO2.out rfl w4 A4 c4 H4.out.2.1 hr5 hc5)
  clear HO2 hr5 hc5
  go_wp2_with fail
  refine HO4.out.mono ?_
  rintro e w5 ⟨g, A6, c6, rfl, hT, hb5⟩
  have H5 : Hid (Below w.heap.size w w5) := H4.out.2.1.trans (hb5.mono H4.out.2.1.size)
  have Hright := Lib.hid hT.right
  have HStr : Hid (∀ W lo hi, Below w5.heap.size w5 W → Calls Tryd.prog 36 #[.pointer (some ⟨g, 0, none⟩), .string lo, .string hi] W fun e w' => ∃ v, e = .returned v ∧ RowO w' W.heap.size v (rangeF lo hi fs) ∧ Below W.heap.size W w') := fun W lo hi hW => (hT.below hW).stretch lo hi
  have HG : Hid (∀ k W, Below w5.heap.size w5 W → Calls Tryd.prog 33 #[.pointer (some ⟨g, 0, none⟩), .string k] W fun e w' => Below W.heap.size W w' ∧
    ((∃ f V, fs[cntF fs k]? = some f ∧ f.1 = k ∧ e = .returned (.tuple #[fcV f V, .bool true]) ∧ Own w' W.heap.size V f.2.2) ∨
     ((∀ f, fs[cntF fs k]? = some f → f.1 ≠ k) ∧ e = .returned (.tuple #[.agg #[.string ⟨#[]⟩, .int .u64 0, .slice none 0 0], .bool false])))) := fun k W hW => (hT.below hW).get k
  have HKs : Hid (∀ f ∈ fs, f.1.size ≤ 131072) := fun f hf => by have := sumF_mem hf; have := Hs.out.2.1; omega
  clear hT hb5 HO4 H4 Hs Hnb Htwo2
  have HX : Hid (∀ i z, cuts[i]? = some z → ∃ b o, L = some ⟨b, o, none⟩ ∧ ∀ W, Below w5.heap.size w5 W → W.cell? ⟨b, o + i, none⟩ = some (.string z)) := fun i z hz => by
    obtain ⟨b, o, e, hlt, h0⟩ := (HL.out.below H5.out) i z hz
    exact ⟨b, o, e, fun W hW => (hW.cell (p := ⟨b, o + i, none⟩) (Nat.lt_of_lt_of_le hlt H5.out.size)).trans h0⟩
  have HA5 : Hid (RF w5 w5.heap.size A fs) := (HA.out.below H5.out).wide H5.out.size
  clear HL HA
  go_wp2_with fail
  go_loopw [11, 12, 13] (fun sv lv iv wr => ∃ (i : Nat) (lo : ByteArray) (sv' : Value), sv = sv' ∧ lv = .string lo ∧ iv = .int .i64 (i : Int) ∧ i ≤ nc ∧ Hid (RowM w5 wr sv' (fs.filter (lessK lo)))) (fun _ _ iv _ => nc - (intOf iv).toNat)
  case atStart => exact ⟨0, ⟨#[]⟩, _, rfl, rfl, rfl, Nat.zero_le _, by rw [below_nil]; exact RowM.start (Below.refl _ _)⟩
  case round =>
    obtain ⟨i, lo, sv, esv, rfl, rfl, hi', hst⟩ := hrel
    obtain rfl := esv.symm
    by_cases hlt : i < nc
    · obtain ⟨z, hz⟩ := HLc.out i hlt
      obtain ⟨b, o, rfl, HZ'⟩ := HX.out i z hz
      have HZ := Lib.hid HZ'
      have hlt' : (i : Int) < (nc : Int) := by omega
      have y0 := HZ.out wr hst.out.2
      clear HZ' hz hlt
      by_cases hzl : (z.size : Int) > 1000
      · go_wp2_with fail
        go_ret
        exact ⟨rfl, H5.out.trans (hst.out.2.mono H5.out.size)⟩
      rcases less_total z.toList lo.toList with hb1 | hb1 | hb1
      · go_wp2_with fail
        go_roundw
        case rel => exact ⟨i + 1, lo, _, rfl, rfl, (by first | rfl | go_num), by omega, hst⟩
        case measure => simp [intOf]; omega
      · have hb2 := less_irrefl z.toList
        have hb3 : (z.toList == lo.toList) = true := by rw [hb1]; simp
        have hb4 : Op.bytesLess z.toList lo.toList = false := by rw [← hb1]; exact hb2
        clear hb1 hb2
        go_wp2_with fail
        go_roundw
        case rel => exact ⟨i + 1, lo, _, rfl, rfl, (by first | rfl | go_num), by omega, hst⟩
        case measure => simp [intOf]; omega
      · have hb2 := less_asymm hb1
        have hb3 : (z.toList == lo.toList) = false := by
          rw [beq_eq_false_iff_ne]
          intro e
          rw [e, less_irrefl] at hb1
          cases hb1
        have HS := Lib.hid (HStr.out wr lo z hst.out.2)
        have Hj : Hid (fs.filter (lessK lo) ++ rangeF lo z fs = fs.filter (lessK z)) := cut_join Hright.out hb1
        have Hm : Hid ((fs.filter (lessK lo)).length + (rangeF lo z fs).length ≤ 1099511627776) := by
          show _ ≤ _
          have h1 := congrArg List.length Hj.out
          rw [List.length_append] at h1
          have h2 := List.length_filter_le (lessK z) fs
          have := Hn.out
          omega
        go_wp2_with fail
        refine HS.out.mono ?_
        rintro e w7 ⟨v7, rfl, ho7, hb7⟩
        have H7 : Hid (RowM w5 w7 sv (fs.filter (lessK lo)) ∧ RowO w7 w5.heap.size v7 (rangeF lo z fs)) := ⟨hst.out.below hb7, ho7.wide hst.out.2.size⟩
        have y7 := HZ.out w7 H7.out.1.2
        clear ho7 hb7 HS hst y0
        go_wp2_with (at_builtin; go_must (refine app_rowM rfl (.tmp 78) (.tmp 85) rfl rfl H7.out.1 rfl H7.out.2 Hm.out ?_); intro v8 w8 r8; have H8 : Hid (RowM w5 w8 v8 (fs.filter (lessK z))) := (by rw [← Hj.out]; exact r8); have y8 := HZ.out w8 H8.out.2; clear r8)
        go_roundw
        case rel => exact ⟨i + 1, z, _, rfl, rfl, (by first | rfl | go_num), by omega, H8⟩
        case measure => simp [intOf]; omega
    · obtain rfl : i = nc := by omega
      clear HX HLc hlt
      generalize wr = w6 at *
      go_wp2_with fail
      go_loopw [11, 14] (fun sv2 iv wr => ∃ (j : Nat) (sv' : Value), sv2 = sv' ∧ iv = .int .i64 (j : Int) ∧ j ≤ n ∧ Hid (RowM w5 wr sv' (fs.filter (lessK lo) ++ (fs.take j).filter (fun f => !lessK lo f)))) (fun _ iv _ => n - (intOf iv).toNat)
      case atStart => exact ⟨0, _, rfl, rfl, Nat.zero_le _, by simpa using hst⟩
      case round =>
        obtain ⟨j, sv2, esv2, rfl, hj', hst2⟩ := hrel
        obtain rfl := esv2.symm
        clear hst
        by_cases hjt : j < n
        · obtain ⟨f, hf⟩ := Hlen.out j hjt
          have hlt' : (j : Int) < (n : Int) := by omega
          obtain ⟨b, o, V, rfl, hblt, x0, x1, x2, hV, hsf⟩ := HA5.out.at_ hf
          have HX : Hid (∀ W, Below w5.heap.size w5 W → W.cell? ⟨b, o + j * 3, none⟩ = some (.string f.1) ∧ W.cell? ⟨b, o + j * 3 + 1, none⟩ = some (.int .u64 (f.2.1 : Int)) ∧ W.cell? ⟨b, o + j * 3 + 2, none⟩ = some V) := fun W hW => ⟨(hW.cell (p := ⟨b, o + j * 3, none⟩) hblt).trans x0, (hW.cell (p := ⟨b, o + j * 3 + 1, none⟩) hblt).trans x1, (hW.cell (p := ⟨b, o + j * 3 + 2, none⟩) hblt).trans x2⟩
          have Hblt := Lib.hid hblt
          have hadd : f.1.size ≤ 9223372036854775806 := by have := HKs.out f (List.mem_of_getElem? hf); omega
          have Hf : Hid (fs[j]? = some f ∧ f.2.1 < two64 ∧ Vb w5 w5.heap.size V f.2.2) := ⟨hf, hsf, hV⟩
          have Hcnt : Hid ((fs.filter (lessK lo) ++ (fs.take j).filter (fun f => !lessK lo f)).length + 1 ≤ 1099511627776) := by
            show _ ≤ _
            rw [List.length_append]
            have h1 := List.length_filter_le (lessK lo) fs
            have h2 := List.length_filter_le (fun f => !lessK lo f) (fs.take j)
            rw [List.length_take] at h2
            have := Hn.out
            have := Hn2.out
            omega
          have Hsn := Lib.hid (rest_snoc lo hf)
          obtain ⟨A2, cv, rfl, _⟩ := hV
          obtain ⟨y0, y1, y2⟩ := HX.out wr hst2.out.2
          obtain ⟨fk, s, fv⟩ := f
          dsimp only at *
          obtain ⟨b1, hb1⟩ : ∃ b1, Op.bytesLess fk.toList lo.toList = b1 := ⟨_, rfl⟩
          have Hin : Hid ((fs.take (j + 1)).filter (fun f => !lessK lo f) = (fs.take j).filter (fun f => !lessK lo f) ++ if (!b1) = true then [(fk, s, fv)] else []) := by
            have := Hsn.out
            rw [show lessK lo (fk, s, fv) = b1 from hb1] at this
            exact this
          clear hf hsf x0 x1 x2 hblt Hsn hjt
          go_upto_if 103 with fail
          go_cut [11] (fun v wx => ∃ sv', v = sv' ∧ Hid (RowM w5 wx sv' (fs.filter (lessK lo) ++ (fs.take (j + 1)).filter (fun f => !lessK lo f))))
          case first => as_aux_lemma =>
            clear HStr HG HX Hlen Hn HA5
            cases b1 with
            | true =>
              have Hs : Hid (RowM w5 wr sv2 (fs.filter (lessK lo) ++ (fs.take (j + 1)).filter (fun f => !lessK lo f))) := by
                rw [Hin.out, if_neg (by simp), List.append_nil]; exact hst2.out
              clear hst2 Hin
              go_wp2_with fail
              go_meet
              exact ⟨_, rfl, Hs⟩
            | false =>
              have Hs : Hid (RowM w5 (wr.alloc (.cells #[.string fk, .int .u64 (s : Int), .slice A2 fv.length cv] 40)) sv2 (fs.filter (lessK lo) ++ (fs.take j).filter (fun f => !lessK lo f))) := hst2.out.below ((Below.refl _ _).alloc (Nat.le_refl _) _)
              have HH : Hid (∀ W v, RowM w5 W v (fs.filter (lessK lo) ++ (fs.take j).filter (fun f => !lessK lo f) ++ [(fk, s, fv)]) → RowM w5 W v (fs.filter (lessK lo) ++ (fs.take (j + 1)).filter (fun f => !lessK lo f))) := fun W v q => by
                rw [Hin.out, if_pos (show (!false) = true from rfl), ← List.append_assoc]; exact q
              clear hst2 Hin
              go_wp2_with (at_builtin; refine app_rowM1 rfl (.tmp 104) (.tmp 109) rfl (fk, s, fv) rfl Hs.out (RP.one wr (fk, s, fv) (.slice A2 fv.length cv)) Hf.out.2.2 Hf.out.2.1 1 rfl Hcnt.out ?_; intro v6 w6' r6; have H6 := Lib.hid (HH.out _ _ r6); clear r6)
              go_meet
              exact ⟨_, rfl, H6⟩
          case rest =>
            obtain ⟨sv3, esv3, Hs3⟩ := hcut
            obtain rfl := esv3.symm
            clear hst2 Hin hb1 Hcnt y0 y1 y2
            generalize wc = wa at *
            obtain ⟨y0, _, _⟩ := HX.out wa Hs3.out.2
            obtain ⟨z0, _, _⟩ := HX.out wa.drew Hs3.out.2.drew
            have HSr : Hid (∀ W hi, (W = wa ∨ W = wa.drew) → Calls Tryd.prog 36 #[.pointer (some ⟨g, 0, none⟩), .string fk, .string hi] W fun e w' => ∃ v, e = .returned v ∧ Hid (RowO w' w5.heap.size v (rangeF fk hi fs) ∧ RowM w5 w' sv3 (fs.filter (lessK lo) ++ (fs.take (j + 1)).filter (fun f => !lessK lo f)))) := fun W hi hW => by
              have hb : Below wa.heap.size wa W := by
                rcases hW with rfl | rfl
                · exact Below.refl _ _
                · exact (Below.refl _ _).drew
              refine (HStr.out W fk hi (Hs3.out.2.trans (hb.mono Hs3.out.2.size))).mono ?_
              rintro e w' ⟨v, rfl, h1, h2⟩
              exact ⟨v, rfl, h1.wide (Nat.le_trans Hs3.out.2.size hb.size), (Hs3.out.below hb).below h2⟩
            go_upto_region 26 with fail
            go_region_with (go_at_call 36; refine (HSr.out _ _ (by first | exact .inl (by with_reducible rfl) | exact .inr (by with_reducible rfl))).mono ?_; rintro e w7 ⟨v7, rfl, H7⟩; have y7 := (HX.out w7 H7.out.2.2).1)
            all_goals
              clear HSr hadd y0 z0 Hs3 HStr
              obtain ⟨u, hone, hcu⟩ := oneKey Hright.out (key0_list fk) (List.mem_of_getElem? Hf.out.1) rfl
              have Hsl : Hid ((rangeF fk (fk ++ (⟨#[0]⟩ : ByteArray)) fs).length ≤ 1048576) := by
                show _ ≤ _
                have h1 := List.length_filter_le (fun f => !lessK fk f && lessK (fk ++ (⟨#[0]⟩ : ByteArray)) f) fs
                have := Hn.out
                have := Hn2.out
                unfold rangeF
                omega
              generalize rangeF fk (fk ++ (⟨#[0]⟩ : ByteArray)) fs = sm at *
              have Hcu := Lib.hid hcu
              have Hone := Lib.hid hone
              obtain ⟨A7, c7, rfl, _, _, _, _⟩ := H7.out.1.rd
              have HGk := Lib.hid (HG.out fk w7 H7.out.2.2)
              clear HG hcu hone
              go_wp2_with fail
              refine HGk.out.mono ?_
              rintro e w8 ⟨hb8, ⟨f', V', hf', hk', rfl, ho'⟩ | ⟨hno, _⟩⟩
              case inr => exact absurd Hone.out.2.1 (hno u Hcu.out)
              rw [Hcu.out] at hf'
              cases hf'
              obtain ⟨A8, c8, rfl, _, _, _⟩ := ho'.rb
              obtain ⟨uk, us, uv⟩ := u
              dsimp only at *
              subst hk'
              unfold fcV
              dsimp only
              obtain ⟨W8, hW8⟩ : ∃ W8, W8 = w8.alloc (.cells #[.string uk, .int .u64 (us : Int), .slice A8 uv.length c8] 40) := ⟨_, rfl⟩
              have hb8W : Below w8.heap.size w8 W8 := by rw [hW8]; exact (Below.refl _ _).alloc (Nat.le_refl _) _
              have hC8 : Cells W8 w8.heap.size 40 [.string uk, .int .u64 (us : Int), .slice A8 uv.length c8] := by rw [hW8]; exact Cells.new w8 _ _
              have hb7W : Below w7.heap.size w7 W8 := hb8.trans (hb8W.mono hb8.size)
              have H8 : Hid (RowO W8 w5.heap.size (.slice A7 sm.length c7) sm ∧ RowM w5 W8 sv3 (fs.filter (lessK lo) ++ (fs.take (j + 1)).filter (fun f => !lessK lo f)) ∧ Cells W8 w8.heap.size 40 [.string uk, .int .u64 (us : Int), .slice A8 uv.length c8] ∧ Own W8 w7.heap.size (.slice A8 uv.length c8) uv) := ⟨H7.out.1.below hb7W, H7.out.2.below hb7W, hC8, ho'.below hb8W⟩
              clear HGk ho' hb8 hb8W hC8 hb7W H7 y7
              go_upto_region 28 with fail
              rw [← hW8]
              clear hW8
              · skip
                obtain ⟨h1, _, hl1, zf, hz1, hz2⟩ := Hone.out
                obtain ⟨A9, c9, e9, _, _, hrf, _⟩ := H8.out.1.rd
                cases e9
                obtain ⟨bs, os, Vs, rfl, hbs, y0, y1, y2, hVs, _⟩ := hrf.at_ h1
                obtain ⟨b9, o9, V9, e9, _, z0, _, _, _, _⟩ := hrf.at_ hz1
                cases e9
                rw [Nat.zero_mul, Nat.add_zero] at y0 y1 y2
                rw [hz2] at z0
                have hVs2 := hVs
                obtain ⟨A3, c3, rfl, _⟩ := hVs
                dsimp only at *
                have HSg : Hid (∀ n os, Calls Tryd.prog 35 #[.agg #[.string uk, .int .u64 (us : Int), .slice A3 uv.length c3], .agg #[.string uk, .int .u64 (us : Int), .slice A8 uv.length c8]] (grow (W8.drewN n) os) fun e w' => e = .returned (.bool true) ∧ ∃ q os', w' = grow ((grow (W8.drewN n) os).drewN q) os') := fun n os => by
                  have hbX : Below W8.heap.size W8 (grow (W8.drewN n) os) := Gr.below ⟨n, os, rfl⟩
                  have q1 : Vb (grow (W8.drewN n) os) (grow (W8.drewN n) os).heap.size (.slice A8 uv.length c8) uv := Vb.wide (Vb.below (w := W8) (B := W8.heap.size) (Vb.own H8.out.2.2.2) hbX) hbX.size
                  have q2 : Vb (grow (W8.drewN n) os) (grow (W8.drewN n) os).heap.size (.slice A3 uv.length c3) uv := Vb.wide (Vb.below (w := W8) (B := W8.heap.size) hVs2 hbX) hbX.size
                  have := same_anyF (uk, us, uv) (uk, us, uv) (.slice A3 uv.length c3) (.slice A8 uv.length c8) (grow (W8.drewN n) os) q2 q1
                  rw [decide_eq_true rfl] at this
                  exact this
                have hb8l : w8.heap.size < W8.heap.size := H8.out.2.2.1.lt
                have r0 := H8.out.2.2.1.cell (i := 0) rfl
                have r1 := H8.out.2.2.1.cell (i := 1) rfl
                have r2 := H8.out.2.2.1.cell (i := 2) rfl
                have g0 := cell_grown (w := W8) (a := ⟨w8.heap.size, 0, none⟩) hb8l r0
                have g1 := cell_grown (w := W8) (a := ⟨w8.heap.size, 1, none⟩) hb8l r1
                have g2 := cell_grown (w := W8) (a := ⟨w8.heap.size, 2, none⟩) hb8l r2
                have g3 := cell_grown (w := W8) (a := ⟨bs, os, none⟩) hbs y0
                have g4 := cell_grown (w := W8) (a := ⟨bs, os + 1, none⟩) hbs y1
                have g5 := cell_grown (w := W8) (a := ⟨bs, os + 2, none⟩) hbs y2
                have g6 := cell_grown (w := W8) (a := ⟨bs, os + (sm.length - 1) * 3, none⟩) hbs z0
                have g7 := cell_grown (w := W8) (a := ⟨b, o + j * 3, none⟩) (Nat.lt_of_lt_of_le Hblt.out H8.out.2.1.2.size) (HX.out W8 H8.out.2.1.2).1
                have H9 : Hid (∀ n os9, RowM w5 (grow (W8.drewN n) os9) sv3 (fs.filter (lessK lo) ++ (fs.take (j + 1)).filter (fun f => !lessK lo f))) := fun n os9 => H8.out.2.1.below (Gr.below ⟨n, os9, rfl⟩)
                have mixed : Tryd.prog.follows Departure.mixedOrders = true := by kernel_rfl
                have hk1 : (uk.toList == uk.toList) = true := by simp
                have hd1 : decide ((sm.length : Int) < 1) = false := by simp; omega
                have hd2 : (0 : Int) < (sm.length : Int) := by omega
                have hd3 : IntKind.i64.wrap ((sm.length : Int) - 1) = ((sm.length - 1 : Nat) : Int) := by
                  rw [IntKind.wrap_i64]
                  have hle : sm.length ≤ 1048576 := Hsl.out
                  omega
                have hd4 : ((sm.length - 1 : Nat) : Int) < (sm.length : Int) := by omega
                have hd5 : 0 < sm.length := hl1
                have hd6 : ¬ sm = [] := fun q => by rw [q] at hl1; cases hl1
                clear hVs2 hrf h1 hz1 hl1 hz2
                clear r0 r1 r2 y0 y1 y2 z0 hbs hb8l
                clear HX Hf Hone Hcu H8 Hlen Hn HA5
                generalize sm.length - 1 = ml at *
                generalize sm.length = m at *
                refine wp_region_quiet_grown mixed (by kernel_rfl) ?_
                repeat (go_big_quiet_step (first | (go_at_call 35; refine Calls.grown_of (HSg.out _ _))))
                refine wpQuiet_nil ?_
                intro _ hw'
                obtain ⟨⟨nq, osq⟩, hw''⟩ := hw'
                subst hw''
                first | go_simp | skip
                go_wp2_with fail
                go_roundw
                case rel => exact ⟨j + 1, _, rfl, (by first | rfl | go_num), by omega, H9.out nq osq⟩
                case measure => simp [intOf]; omega
        · obtain rfl : j = n := by omega
          have htk : fs.take j = fs := List.take_of_length_le (by have := Hn.out; omega)
          have hall := all_join Hright.out lo
          have hM := hst2.out
          rw [htk, hall] at hM
          obtain ⟨A8, c8, rfl, _, _, hr8, _⟩ := hM.rd
          have HS := Lib.hid (sameRows_any A8 A c8 c fs fs wr (by have := Hn.out; omega) (by have := Hn.out; omega) hr8 ((HA5.out.below hM.2).wide hM.2.size))
          rw [decide_eq_true rfl] at HS
          rw [← Hn.out] at HS ⊢
          have Hb := Lib.hid hM.2
          clear htk hall hM hr8 hst2
          go_wp2_with fail
          refine HS.out.mono ?_
          rintro e w9 ⟨rfl, hg9⟩
          have Hb9 : Hid (Below w.heap.size w w9) := H5.out.trans ((Hb.out.trans (hg9.below.mono Hb.out.size)).mono H5.out.size)
          clear hg9 HS
          go_wp2_with fail
          go_ret
          exact ⟨rfl, Hb9.out⟩
end
end Go.Proofs.YtghcfmkmndldoaaDoor
