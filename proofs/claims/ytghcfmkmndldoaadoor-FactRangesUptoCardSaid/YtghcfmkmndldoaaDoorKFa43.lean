/-
  The second saying's Build.
-/
import Derived.Test.YtghcfmkmndldoaaDoorKFaR2
import Derived.Test.YtghcfmkmndldoaaDoorKFa3
import Derived.Test.YtghcfmkmndldoaaDoorKFa9
import Derived.Test.YtghcfmkmndldoaaDoorKPageSpec
import Derived.Test.YtghcfmkmndldoaaDoorKFa41
namespace Go.Proofs.YtghcfmkmndldoaaDoor
open Go.RowKit Go.Sort Go.Lib

section
set_option maxRecDepth 100000
set_option maxHeartbeats 8000000
theorem rbuild_any (A : Option Addr) (c : Nat) (fs : List Fc) (block : Int) (w : World) (hs : SFit fs) (hr : RF w w.heap.size A fs) :
    Calls Tryd.prog 29 #[.slice A fs.length c, .int .i64 block] w fun e w' => ∃ v, e = .returned (.tuple #[v, .int .i64 (buildE fs block : Nat)]) ∧ Own w' w.heap.size v (buildB fs block) ∧ Below w.heap.size w w' := by
  have Hr := Lib.hid hr
  have Hs := Lib.hid hs
  have hl400 := hs.1
  have hl' : ((fs.length : Nat) : Int) ≤ 400 := by omega
  have HE : Hid (buildE fs block = if block < 1 ∨ 1048576 < block then 1 else if rightF fs = false then 25 else if 1048576 < fs.length ∨ fs.any longF = true then 3 else 0) := rfl
  have HB : Hid (buildB fs block = if buildE fs block = 0 then tabF block.toNat fs else []) := rfl
  have HR := Lib.hid (rright_any A c fs w (by omega) hr)
  have Hlen : Hid (∀ k : Nat, k < fs.length → ∃ u, fs[k]? = some u) := fun k hk => ⟨_, List.getElem?_eq_getElem hk⟩
  obtain ⟨n, hn⟩ : ∃ n, n = fs.length := ⟨_, rfl⟩
  rw [← hn] at hl' HE HR Hlen ⊢
  have Hn := Lib.hid hn
  obtain ⟨eb, heb⟩ : ∃ eb, eb = buildE fs block := ⟨_, rfl⟩
  rw [← heb] at HE HB ⊢
  obtain ⟨bb, hbb⟩ : ∃ bb, bb = buildB fs block := ⟨_, rfl⟩
  rw [← hbb] at HB ⊢
  clear hr hs hl400 hn heb hbb
  by_cases hb1 : block < 1
  · obtain rfl : eb = 1 := by rw [HE.out, if_pos (.inl hb1)]
    have hb : bb = [] := HB.out
    subst hb
    go_enter Tryd.func29, Tryd.ntmps29
    go_wp2_with fail
    exact bodyPost_ret (v := .tuple #[.slice none 0 0, .int .i64 1]) (by simp [results, Tryd.results29, go_sem]) rfl ⟨_, rfl, Own.nil _ _, Below.refl _ _⟩
  by_cases hb2 : 1048576 < block
  · obtain rfl : eb = 1 := by rw [HE.out, if_pos (.inr hb2)]
    have hb : bb = [] := HB.out
    subst hb
    have hb2' : block > 1048576 := hb2
    go_enter Tryd.func29, Tryd.ntmps29
    go_wp2_with fail
    exact bodyPost_ret (v := .tuple #[.slice none 0 0, .int .i64 1]) (by simp [results, Tryd.results29, go_sem]) rfl ⟨_, rfl, Own.nil _ _, Below.refl _ _⟩
  have hb2' : ¬ block > 1048576 := hb2
  cases hri : rightF fs with
  | false =>
    obtain rfl : eb = 25 := by rw [HE.out, if_neg (by omega), if_pos hri]
    have hb : bb = [] := HB.out
    subst hb
    rw [hri] at HR
    go_enter Tryd.func29, Tryd.ntmps29
    go_wp2_with fail
    refine HR.out.mono ?_
    rintro e w1 ⟨rfl, hg1⟩
    have H1 := Lib.hid hg1.below
    clear hg1
    go_wp2_with fail
    exact bodyPost_ret (v := .tuple #[.slice none 0 0, .int .i64 25]) (by simp [results, Tryd.results29, go_sem]) rfl ⟨_, rfl, Own.nil _ _, H1.out⟩
  | true =>
    rw [hri] at HR
    have HE2 : Hid (eb = if fs.any longF = true then 3 else 0) := by
      show _ = _
      rw [HE.out, if_neg (by omega), if_neg (by simp [hri])]
      by_cases q : fs.any longF = true
      · rw [if_pos (.inr q), if_pos q]
      · rw [if_neg (by rintro (h | h)
                       · omega
                       · exact q h), if_neg q]
    clear HE hri
    obtain ⟨bl, rfl⟩ : ∃ bl : Nat, block = (bl : Int) := ⟨block.toNat, by omega⟩
    have HB2 : Hid (bb = if eb = 0 then tabF bl fs else []) := HB.out
    clear HB
    go_enter Tryd.func29, Tryd.ntmps29
    go_wp2_with fail
    refine HR.out.mono ?_
    rintro e w1 ⟨rfl, hg1⟩
    have H1 := Lib.hid hg1.below
    clear hg1 HR
    go_wp2_with fail
    go_loopw [6] (fun iv wr => ∃ i : Nat, iv = .int .i64 (i : Int) ∧ i ≤ n ∧ Hid ((fs.take i).any longF = false) ∧ Hid (Below w.heap.size w wr)) (fun iv _ => n - (intOf iv).toNat)
    case atStart => exact ⟨0, rfl, Nat.zero_le _, rfl, H1.out⟩
    case round =>
      have hrel0 := hrel
      clear hrel
      obtain ⟨i, rfl, hi, hall, hg⟩ := hrel0
      by_cases hlt : i < n
      · obtain ⟨f, hf⟩ := Hlen.out i hlt
        obtain ⟨b, o, V, rfl, hblt, c0, c1, c2, ⟨A2, cv, rfl, _⟩, _⟩ := (Hr.out.below hg.out).at_ hf
        have hlt' : (i : Int) < (n : Int) := by omega
        have Hok : Hid (longF f = false → (fs.take (i + 1)).any longF = false) := fun q => by
          rw [List.take_add_one, hf, List.any_append, hall.out]
          simp [q]
        have Hno : Hid (longF f = true → eb = 3) := fun q => by
          rw [HE2.out, if_pos]
          exact List.any_eq_true.2 ⟨f, List.mem_of_getElem? hf, q⟩
        have hlo : longF f = decide (1024 < f.1.size ∨ 1048576 < f.2.2.length) := rfl
        obtain ⟨k, s, x⟩ := f
        dsimp only at c0 c1 c2 hlo
        have Hg := hg
        clear hf hall hg hlt Hlen c1 H1 Hs Hn
        by_cases h1 : 1024 < k.size
        · obtain rfl : eb = 3 := Hno.out (by rw [hlo]; simp [h1])
          have hb : bb = [] := HB2.out
          subst hb
          have h1' : (k.size : Int) > 1024 := by omega
          clear hlo Hok Hno HE2
          go_wp2_with fail
          exact bodyPost_ret (v := .tuple #[.slice none 0 0, .int .i64 3]) (by simp [results, Tryd.results29, go_sem]) rfl ⟨_, rfl, Own.nil _ _, Hg.out⟩
        · have h1' : ¬ (k.size : Int) > 1024 := by omega
          by_cases h2 : 1048576 < x.length
          · obtain rfl : eb = 3 := Hno.out (by rw [hlo]; simp [h2])
            have hb : bb = [] := HB2.out
            subst hb
            have h2' : (x.length : Int) > 1048576 := by omega
            clear hlo Hok Hno HE2
            go_wp2_with fail
            exact bodyPost_ret (v := .tuple #[.slice none 0 0, .int .i64 3]) (by simp [results, Tryd.results29, go_sem]) rfl ⟨_, rfl, Own.nil _ _, Hg.out⟩
          · have h2' : ¬ (x.length : Int) > 1048576 := by omega
            have Ha := Lib.hid (Hok.out (by rw [hlo]; simp; omega))
            clear hlo Hok Hno HE2
            go_wp2_with fail
            go_roundw
            case rel => exact ⟨i + 1, by go_num, by omega, Ha.out, Hg.out⟩
            case measure => simp [intOf]; omega
      · obtain rfl : i = n := by omega
        have hal : fs.any longF = false := by
          have := hall.out
          rwa [Hn.out, List.take_of_length_le (Nat.le_refl _)] at this
        obtain rfl : eb = 0 := by rw [HE2.out, if_neg (by simp [hal])]
        have HB3 : Hid (bb = tabF bl fs) := HB2.out
        have H2 : Hid (Trio wr w.heap.size (.slice none 0 0) (.slice none 0 0) (.slice none 0 0) [] [] [] ∧ Below w.heap.size w wr ∧ RbP bl fs 0 0 [] [] []) := ⟨⟨Own.nil _ _, Own.nil _ _, Own.nil _ _, (fun g e => by cases e), (fun g e => by cases e), (fun g e => by cases e)⟩, hg.out, RbP.start _ _⟩
        clear hal hall hg HE2 HB2 H1
        have hi1 : ¬ (i : Int) > 1048576 := by omega
        generalize wr = w0 at *
        go_wp2_with fail
        go_loopw [7, 8, 9, 10, 11] (fun tv xv nv jv iv wr => ∃ (k j : Nat) (T X N : List UInt8) (uT uX uN : Value), tv = uT ∧ xv = uX ∧ nv = uN ∧ jv = .int .i64 (j : Int) ∧ iv = .int .i64 (k : Int) ∧ k ≤ i ∧ Hid (RbP bl fs k j T X N) ∧ Hid (Trio wr w.heap.size uT uX uN T X N) ∧ Hid (Below w.heap.size w wr)) (fun _ _ _ _ iv _ => i - (intOf iv).toNat)
        case atStart => exact ⟨0, 0, [], [], [], _, _, _, rfl, rfl, rfl, rfl, rfl, Nat.zero_le _, H2.out.2.2, H2.out.1, H2.out.2.1⟩
        case round =>
          have hrel0 := hrel
          clear hrel
          obtain ⟨k, j, T, X, N, uT, uX, uN, eT, eX, eN, rfl, rfl, hk, hp, htr, hg⟩ := hrel0
          obtain rfl := eT.symm
          obtain rfl := eX.symm
          obtain rfl := eN.symm
          clear H2
          by_cases hlt : k < i
          · obtain ⟨f, hf⟩ := Hlen.out k hlt
            obtain ⟨g, hgj⟩ := Hlen.out j (by have := hp.out.ji; omega)
            have hlt' : (k : Int) < (i : Int) := by omega
            have hjl' : (j : Int) < (i : Int) := by have := hp.out.ji; omega
            obtain ⟨b, o, V, rfl, hblt, c0, c1, c2, ⟨A2, cv, rfl, _, _, hrx⟩, hs64⟩ := Hr.out.at_ hf
            obtain ⟨b', o', V', e', hblt', d0, _, _, _, _⟩ := Hr.out.at_ hgj
            cases e'
            have HX : Hid (∀ W, Below w.heap.size w W → W.cell? ⟨b, o + k * 3, none⟩ = some (.string f.1) ∧ W.cell? ⟨b, o + k * 3 + 1, none⟩ = some (.int .u64 (f.2.1 : Int)) ∧ W.cell? ⟨b, o + k * 3 + 2, none⟩ = some (.slice A2 f.2.2.length cv) ∧ W.cell? ⟨b, o + j * 3, none⟩ = some (.string g.1)) := fun W hW => ⟨(hW.cell (p := ⟨b, o + k * 3, none⟩) hblt).trans c0, (hW.cell (p := ⟨b, o + k * 3 + 1, none⟩) hblt).trans c1, (hW.cell (p := ⟨b, o + k * 3 + 2, none⟩) hblt).trans c2, (hW.cell (p := ⟨b, o + j * 3, none⟩) hblt).trans d0⟩
            have hfm := sumF_mem (List.mem_of_getElem? hf)
            have hgm := sumF_mem (List.mem_of_getElem? hgj)
            have hsum := Hs.out.2.1
            have hlens := hp.out.lens Hs.out
            have hN1 : (N ++ wrF f).length ≤ 143072 := by
              have h1 := hp.out.now
              rw [h1, ← blkF_one f, ← blkF_append, ← take_more hf hp.out.ji]
              have h4 := blkF_take_le (fs.drop j) (k + 1 - j)
              have h5 := blkF_split fs j
              have := Hs.out.blk
              omega
            have Hnum : Hid (T.length ≤ 144672 ∧ X.length ≤ 151072 ∧ N.length ≤ 143072 ∧ (N ++ wrF f).length ≤ 143072 ∧ f.1.size ≤ 131072 ∧ f.2.2.length ≤ 131072 ∧ g.1.size ≤ 131072 ∧ f.2.1 < two64) := ⟨hlens.1, hlens.2.1, hlens.2.2, hN1, by omega, by omega, by omega, hs64⟩
            have Hmore := Lib.hid (fun (q1 : (N ++ wrF f).length < bl) (q2 : k + 1 ≠ i) => hp.out.more hf q1 (by rw [← Hn.out]; exact q2))
            have Hclose := Lib.hid (fun (q : bl ≤ (N ++ wrF f).length ∨ k + 1 = i) => hp.out.close hf hgj (by rw [← Hn.out]; exact q))
            have Hrx := Lib.hid hrx
            have Hew : Hid (N ++ wrF f = N ++ bytL f.1.data.toList ++ numBytes f.2.1 ++ (numBytes f.2.2.length ++ f.2.2)) := by show _ = _; unfold wrF bytL; simp
            obtain ⟨cap, ob, hcv, hob⟩ := str_conv f.1
            have HB1 : Hid (Calls Tryd.prog 61 #[uN, .slice (some ⟨wr.heap.size, 0, none⟩) f.1.size (cap wr)] (wr.drew.alloc (ob wr)) fun e w' => ∃ v, e = .returned v ∧ Own w' w.heap.size v (N ++ bytL f.1.data.toList) ∧ Grow wr w' uN v) :=
              rkey_any f.1 w.heap.size uN N wr (cap wr) (ob wr) (hob wr).1 htr.out.own3 hg.out.size (by omega) (by omega)
            obtain ⟨x0, x1, x2, x3⟩ := HX.out wr hg.out
            obtain ⟨fk, fsq, fx⟩ := f
            dsimp only at *
            clear hf hgj hfm hgm hsum hlens hN1 hblt hblt' c0 c1 c2 d0 hrx hs64 hob hp Hlen hlt
            have hbytes : ∀ (l : List UInt8), bytL l = numBytes l.length ++ l := fun _ => rfl
            clear hbytes
            go_upto_region 19 with fail
            go_wp2_with fail
            refine HB1.out.mono ?_
            rintro e w3 ⟨v3, rfl, ho3, hg3⟩
            have hb3 : Below w.heap.size w w3 := hg.out.trans (hg3.below htr.out.own3 hg.out.size)
            have H3 : Hid (Trio w3 w.heap.size uT uX v3 T X (N ++ bytL fk.data.toList) ∧ Below w.heap.size w w3) := ⟨htr.out.growN ho3 hg3, hb3⟩
            have hlk : (N ++ bytL fk.data.toList).length ≤ 274800 := by
              have h1 := bytL_le fk.data.toList (by rw [two64_eq]; have := Hnum.out; have h9 : fk.data.toList.length = fk.size := Array.length_toList; omega)
              have h9 : fk.data.toList.length = fk.size := Array.length_toList
              have := Hnum.out
              rw [List.length_append]
              omega
            have HN := Lib.hid (refNumG_any w.heap.size v3 (N ++ bytL fk.data.toList) fsq w3 Hnum.out.2.2.2.2.2.2.2 ho3 hb3.size (by omega))
            obtain ⟨_, x1, _, _⟩ := HX.out w3 hb3
            clear HB1 ho3 hg3 hb3 hcv x0 x2 htr hg
            go_wp2_with fail
            refine HN.out.mono ?_
            rintro e w4 ⟨v4, rfl, ho4, hg4⟩
            have hb4 : Below w.heap.size w w4 := H3.out.2.trans (hg4.below H3.out.1.own3 H3.out.2.size)
            have H4 : Hid (Trio w4 w.heap.size uT uX v4 T X (N ++ bytL fk.data.toList ++ numBytes fsq) ∧ Below w.heap.size w w4) := ⟨H3.out.1.growN ho4 hg4, hb4⟩
            have HB2 := Lib.hid (refBytesG_any w.heap.size v4 (N ++ bytL fk.data.toList ++ numBytes fsq) A2 cv fx w4 ho4 hb4.size (fun w' b' g => by
              have h := hb4.trans (g.below ho4 hb4.size)
              exact (Hrx.out.below h).wide h.size) (by have := numBytes_ten Hnum.out.2.2.2.2.2.2.2; rw [List.length_append]; omega) (by have := Hnum.out; omega))
            rw [← Hew.out] at HB2
            obtain ⟨_, _, x2, _⟩ := HX.out w4 hb4
            clear HN ho4 hg4 hb4 x1 H3 hlk
            go_wp2_with fail
            refine HB2.out.mono ?_
            rintro e w5 ⟨v5, rfl, ho5, hg5⟩
            have hb5 : Below w.heap.size w w5 := H4.out.2.trans (hg5.below H4.out.1.own3 H4.out.2.size)
            have H5 : Hid (Trio w5 w.heap.size uT uX v5 T X (N ++ wrF (fk, fsq, fx)) ∧ Below w.heap.size w w5) := ⟨H4.out.1.growN ho5 hg5, hb5⟩
            obtain ⟨A5, c5, rfl, hc5, hr5, _⟩ := ho5.rb
            have HS := Lib.hid (rsummed_any A5 c5 (N ++ wrF (fk, fsq, fx)) w5 hr5 (by have := Hnum.out; omega))
            have Hsl : Hid ((sumdF (N ++ wrF (fk, fsq, fx))).length = 4 + (N ++ wrF (fk, fsq, fx)).length) := sumdF_length _
            generalize sumdF (N ++ wrF (fk, fsq, fx)) = sd at *
            generalize N ++ wrF (fk, fsq, fx) = N1 at *
            clear HB2 ho5 hg5 hb5 x2 H4 hc5 hr5 Hew
            obtain ⟨n1, hn1⟩ : ∃ n1, n1 = N1.length := ⟨_, rfl⟩
            rw [← hn1] at HS Hsl Hnum Hmore Hclose H5 ⊢
            have hn1' : (n1 : Int) ≤ 143072 := by have := Hnum.out; omega
            have hwi : IntKind.i64.wrap ((i : Int) - 1) = (i : Int) - 1 := by rw [IntKind.wrap_i64]; omega
            have Hn1 := Lib.hid hn1
            clear hn1
            go_upto_region 22 with fail
            go_cut [87] (fun v wx => w5 = wx ∧ v = .bool (decide (bl ≤ n1 ∨ k + 1 = i)))
            case first => as_aux_lemma =>
              clear HS Hsl H5 Hmore Hclose Hrx HX Hn Hnum Hs
              by_cases q1 : bl ≤ n1
              · have q1' : (n1 : Int) ≥ (bl : Int) := by omega
                have Q : Hid (bl ≤ n1 ∨ k + 1 = i) := .inl q1
                clear q1
                go_wp2_with fail
                go_meet
                exact ⟨rfl, by rw [decide_eq_true Q.out]⟩
              · have q1' : ¬ (n1 : Int) ≥ (bl : Int) := by omega
                by_cases q2 : k + 1 = i
                · have q2' : (k : Int) = (i : Int) - 1 := by omega
                  have q3 : ((k : Int) == (i : Int) - 1) = true := by rw [beq_iff_eq]; exact q2'
                  have Q : Hid (bl ≤ n1 ∨ k + 1 = i) := .inr q2
                  clear q1 q2 q2'
                  go_wp2_with fail
                  go_meet
                  exact ⟨rfl, by rw [decide_eq_true Q.out]⟩
                · have q2' : ¬ (k : Int) = (i : Int) - 1 := by omega
                  have q3 : ((k : Int) == (i : Int) - 1) = false := by rw [beq_eq_false_iff_ne]; exact q2'
                  have Q : Hid (¬ (bl ≤ n1 ∨ k + 1 = i)) := fun h => h.elim q1 q2
                  clear q1 q2
                  go_wp2_with fail
                  go_meet
                  exact ⟨rfl, by rw [decide_eq_false Q.out]⟩
            case rest =>
              obtain ⟨rfl, rfl⟩ := hcut
              by_cases hq : bl ≤ n1 ∨ k + 1 = i
              · rw [decide_eq_true hq]
                have Hcl := Lib.hid (Hclose.out hq)
                clear Hclose Hmore hq
                clear hwi hn1'
                obtain ⟨ls, hls⟩ : ∃ ls, ls = sd.length := ⟨_, rfl⟩
                have Hls : Hid (ls = sd.length ∧ ls = 4 + n1) := ⟨hls, by have := Hsl.out; omega⟩
                have hls1 : (ls : Int) ≤ 200000 := by have := Hls.out; have := Hnum.out; omega
                have hwls : IntKind.u64.wrap (ls : Int) = (ls : Int) := by rw [IntKind.wrap_u64]; omega
                obtain ⟨cap2, ob2, hcv2, hob2⟩ := str_conv g.1
                have hcw := hcv2
                clear hcv2
                clear hls
                go_wp2_with fail
                refine HS.out.mono ?_
                rintro e w6 ⟨b6, rfl, ho6, hb6⟩
                have ha6 : ∀ g0, b6.ownBlock = some g0 → uX.ownBlock ≠ some g0 := fun g0 h1 h2 => by
                  have := (ho6.lt g0 h1).1
                  have := (H5.out.1.x.lt g0 h2).2
                  omega
                have ha6t : ∀ g0, b6.ownBlock = some g0 → uT.ownBlock ≠ some g0 := fun g0 h1 h2 => by
                  have := (ho6.lt g0 h1).1
                  have := (H5.out.1.t.lt g0 h2).2
                  omega
                have hb6w : Below w.heap.size w w6 := H5.out.2.trans (hb6.mono H5.out.2.size)
                obtain ⟨A6, c6, rfl, _, _, _⟩ := ho6.rb
                rw [← Hls.out.1] at ho6 ha6 ha6t ⊢
                have H6 : Hid (Trio w6 w.heap.size uT uX (.slice A5 n1 c5) T X N1 ∧ Below w.heap.size w w6 ∧ Own w6 w.heap.size (.slice A6 ls c6) sd ∧ (∀ g0, (Value.slice A6 ls c6).ownBlock = some g0 → uX.ownBlock ≠ some g0)) := ⟨H5.out.1.below hb6, hb6w, ho6.wide H5.out.2.size, ha6⟩
                have HB6 := Lib.hid (rkey_any g.1 w.heap.size uX X w6 (cap2 w6) (ob2 w6) (hob2 w6).1 H6.out.1.x hb6w.size (by have := Hnum.out; omega) (by have := Hnum.out; omega))
                obtain ⟨_, _, _, x3⟩ := HX.out w6 hb6w
                have hlk : (X ++ bytL g.1.data.toList).length ≤ 300000 := by
                  have h9 : g.1.data.toList.length = g.1.size := Array.length_toList
                  have h1 := bytL_le g.1.data.toList (by rw [two64_eq]; have := Hnum.out; omega)
                  have := Hnum.out
                  rw [List.length_append]
                  omega
                have Hlk := Lib.hid hlk
                clear HS ho6 hb6 ha6 ha6t hb6w hob2 H5 hlk
                go_upto_region 24 with fail
                go_wp2_with fail
                refine HB6.out.mono ?_
                rintro e w7 ⟨v7, rfl, ho7, hg7⟩
                obtain ⟨z1, z2⟩ := hg7.other H6.out.2.2.1 H6.out.2.2.2
                have hb7 : Below w.heap.size w w7 := H6.out.2.1.trans (hg7.below H6.out.1.x H6.out.2.1.size)
                have H7 : Hid (Trio w7 w.heap.size uT v7 (.slice A5 n1 c5) T (X ++ bytL g.1.data.toList) N1 ∧ Below w.heap.size w w7 ∧ Own w7 w.heap.size (.slice A6 ls c6) sd ∧ (∀ g0, (Value.slice A6 ls c6).ownBlock = some g0 → v7.ownBlock ≠ some g0)) := ⟨H6.out.1.growX ho7 hg7, hb7, z1, z2⟩
                have HN7 := Lib.hid (refNumG_any w.heap.size v7 (X ++ bytL g.1.data.toList) ls w7 (by rw [two64_eq]; omega) ho7 hb7.size (by have := Hlk.out; omega))
                clear HB6 ho7 hg7 hb7 z1 z2 H6 x3 hcw
                go_wp2_with fail
                refine HN7.out.mono ?_
                rintro e w8 ⟨v8, rfl, ho8, hg8⟩
                obtain ⟨z1, z2⟩ := hg8.other H7.out.2.2.1 H7.out.2.2.2
                have hb8 : Below w.heap.size w w8 := H7.out.2.1.trans (hg8.below H7.out.1.x H7.out.2.1.size)
                have H8 : Hid (Trio w8 w.heap.size uT v8 (.slice A5 n1 c5) T (X ++ bytL g.1.data.toList ++ numBytes ls) N1 ∧ Below w.heap.size w w8 ∧ RB w8 w8.heap.size A6 sd) := ⟨H7.out.1.growX ho8 hg8, hb8, by
                  obtain ⟨A9, c9, e9, _, r9, _⟩ := z1.rb
                  cases e9
                  exact r9⟩
                have He : Hid (X ++ entF g.1 (4 + n1) = X ++ bytL g.1.data.toList ++ numBytes ls) := by show _ = _; rw [← Hls.out.2, List.append_assoc]; rfl
                clear HN7 ho8 hg8 hb8 z1 z2 H7
                go_upto_region 26 with fail
                go_upto_region 27 with (at_builtin; go_must (refine app_bytesG rfl (.tmp 103) (.tmp 104) rfl w.heap.size _ T rfl H8.out.1.t _ A6 ls c6 sd rfl Hls.out.1 H8.out.2.2 (by have := Hls.out; have := Hnum.out; omega) H8.out.2.1.size ?_); intro v9 w9 ho9 hb9 hg9 hv9; have H9 : Hid (Trio w9 w.heap.size v9 v8 (.slice none 0 0) (T ++ sd) (X ++ entF g.1 (4 + n1)) [] ∧ Below w.heap.size w w9) := ⟨by rw [He.out]; exact (H8.out.1.growT ho9 (Grow.of hg9 hv9)).off, H8.out.2.1.trans hb9⟩; clear ho9 hb9 hg9 hv9)
                clear H8
                go_wp2_with fail
                go_roundw
                case rel => exact ⟨k + 1, k + 1, T ++ sd, X ++ entF g.1 (4 + n1), [], _, _, _, rfl, rfl, rfl, (by first | rfl | go_num), (by first | rfl | go_num), by omega, Hcl.out, H9.out.1, H9.out.2⟩
                case measure => simp [intOf]; omega
              · rw [decide_eq_false hq]
                have Hmo := Lib.hid (Hmore.out (by omega) (by omega))
                clear Hclose Hmore hq HS Hsl
                go_wp2_with fail
                go_roundw
                case rel => exact ⟨k + 1, j, T, X, N1, _, _, _, rfl, rfl, rfl, rfl, (by first | rfl | go_num), by omega, Hmo.out, H5.out.1, H5.out.2⟩
                case measure => simp [intOf]; omega
          · obtain rfl : k = i := by omega
            have hfin := hp.out
            rw [Hn.out] at hfin
            obtain ⟨e1, e2⟩ := hfin.finish
            have hlens := hp.out.lens Hs.out
            obtain ⟨AX, cX, rfl, hcX, hrX, _⟩ := htr.out.x.rb
            have HS := Lib.hid (rsummed_any AX cX X wr hrX (by omega))
            have Hsl : Hid ((sumdF X).length = 4 + X.length) := sumdF_length X
            have HBB : Hid (bb = T ++ sumdF X ++ footF (sumdF X).length k) := by show _ = _; rw [HB3.out]; unfold tabF; rw [← e1, ← e2, ← Hn.out, List.append_assoc]
            have H1 : Hid (Own wr w.heap.size uT T ∧ Below w.heap.size w wr) := ⟨htr.out.t, hg.out⟩
            have Hlim : Hid (T.length ≤ 144672 ∧ X.length ≤ 151072) := ⟨hlens.1, hlens.2.1⟩
            generalize sumdF X = sX at *
            obtain ⟨ls, hls⟩ : ∃ ls, ls = sX.length := ⟨_, rfl⟩
            have Hls : Hid (ls = sX.length ∧ ls ≤ 160000) := ⟨hls, by have := Hsl.out; have := Hlim.out; omega⟩
            have hls1 : (ls : Int) ≤ 160000 := by have := Hls.out; omega
            have hwls : IntKind.u64.wrap (ls : Int) = (ls : Int) := by rw [IntKind.wrap_u64]; omega
            have hwk : IntKind.u64.wrap (k : Int) = (k : Int) := by rw [IntKind.wrap_u64]; omega
            rw [← hls] at HBB
            clear hfin e1 e2 hlens hcX hrX htr hg hp Hsl hls Hlen hlt HB3
            go_wp2_with fail
            refine HS.out.mono ?_
            rintro e w3 ⟨b3, rfl, ho3, hb3⟩
            obtain ⟨A3, c3, rfl, _, hr3, _⟩ := ho3.rb
            rw [← Hls.out.1]
            have H3 : Hid (Own w3 w.heap.size uT T ∧ Below w.heap.size w w3 ∧ RB w3 w3.heap.size A3 sX) := ⟨H1.out.1.below hb3, H1.out.2.trans (hb3.mono H1.out.2.size), hr3⟩
            clear HS ho3 hb3 hr3 H1
            go_upto_region 30 with fail
            go_upto_region 31 with (at_builtin; go_must (refine app_bytesG rfl (.tmp 110) (.tmp 111) rfl w.heap.size _ T rfl H3.out.1 _ A3 ls c3 sX rfl Hls.out.1 H3.out.2.2 (by have := Hls.out; have := Hlim.out; omega) H3.out.2.1.size ?_); intro v4 w4 ho4 hb4 _ _; have H4 : Hid (Own w4 w.heap.size v4 (T ++ sX) ∧ Below w.heap.size w w4) := ⟨ho4, H3.out.2.1.trans hb4⟩; clear ho4 hb4)
            have HL : Hid (Calls Tryd.prog 64 #[.slice none 0 0, .int .u64 (ls : Int), .int .i64 4] w4 fun e w' => ∃ b', e = .returned b' ∧ Own w' w4.heap.size b' ([] ++ leBytes 4 ls) ∧ Below w4.heap.size w4 w') := low_any w4.heap.size (.slice none 0 0) [] ls 4 w4 (by omega) (by rw [two64_eq]; omega) (Own.nil _ _) (Nat.le_refl _) (by simp)
            clear H3
            go_wp2_with fail
            refine HL.out.mono ?_
            rintro e w5 ⟨v5, rfl, ho5, hb5⟩
            have HL2 : Hid (Calls Tryd.prog 64 #[v5, .int .u64 (k : Int), .int .i64 4] w5 fun e w' => ∃ b', e = .returned b' ∧ Own w' w4.heap.size b' ([] ++ leBytes 4 ls ++ leBytes 4 k) ∧ Below w4.heap.size w5 w') := low_any w4.heap.size v5 ([] ++ leBytes 4 ls) k 4 w5 (by omega) (by rw [two64_eq]; omega) ho5 hb5.size (by rw [List.length_append, leBytes_length]; simp)
            have H5 := Lib.hid hb5
            clear HL ho5 hb5
            go_wp2_with fail
            refine HL2.out.mono ?_
            rintro e w6 ⟨v6, rfl, ho6, hb6⟩
            have Hf8 : Hid (([] ++ leBytes 4 ls ++ leBytes 4 k).length = 8) := by show _ = _; rw [List.length_append, List.length_append, leBytes_length, leBytes_length]; rfl
            have Hft : Hid (footF ls k = ([] ++ leBytes 4 ls ++ leBytes 4 k) ++ leBytes 4 (sumOf ([] ++ leBytes 4 ls ++ leBytes 4 k))) := rfl
            have Hfl : Hid ((footF ls k).length = 12) := by show _ = _; unfold footF; rw [List.length_append, List.length_append, leBytes_length, leBytes_length, leBytes_length]
            generalize footF ls k = fo at *
            generalize [] ++ leBytes 4 ls ++ leBytes 4 k = f8 at *
            obtain ⟨A6, c6, rfl, _, hr6, _⟩ := ho6.rb
            have H6 : Hid (Below w4.heap.size w4 w6) := H5.out.trans hb6
            have HSm := Lib.hid (refSum_any A6 c6 f8 w6 w6.heap.size hr6 (by have := Hf8.out; omega))
            have HF := Lib.hid (four_any w4.heap.size (.slice A6 f8.length c6) f8 (sumOf f8) w6 (sumOf_lt f8) ho6 H6.out.size (by have := Hf8.out; omega))
            rw [← Hft.out] at HF
            rw [Hf8.out] at HSm HF ⊢
            generalize sumOf f8 = so at *
            clear HL2 ho6 hb6 hr6 H5
            go_wp2_with fail
            refine HSm.out.mono ?_
            rintro e w' ⟨rfl, rfl⟩
            clear HSm
            go_wp2_with fail
            refine HF.out.mono ?_
            rintro e w7 ⟨v7, rfl, ho7, hb7⟩
            obtain ⟨A7, c7, e7, _, hr7, _⟩ := ho7.rb
            rw [Hfl.out] at e7
            subst e7
            have hb47 := H6.out.trans hb7
            have H7 : Hid (Own w7 w.heap.size v4 (T ++ sX) ∧ Below w.heap.size w w7 ∧ RB w7 w7.heap.size A7 fo) := ⟨H4.out.1.below hb47, H4.out.2.trans (hb47.mono H4.out.2.size), hr7⟩
            clear HF ho7 hb7 hb47 hr7 H6 H4
            go_wp2_with (at_builtin; go_must (refine app_bytesG rfl (.tmp 126) (.tmp 127) rfl w.heap.size _ (T ++ sX) rfl H7.out.1 _ A7 12 c7 fo rfl Hfl.out.symm H7.out.2.2 (by have := Hls.out; have := Hlim.out; have := Hfl.out; rw [List.length_append]; omega) H7.out.2.1.size ?_); intro v8 w8 ho8 hb8 _ _; have H8 : Hid (Own w8 w.heap.size v8 bb ∧ Below w.heap.size w w8) := ⟨by rw [HBB.out]; exact ho8, H7.out.2.1.trans hb8⟩; clear ho8 hb8)
            exact bodyPost_ret (v := .tuple #[v8, .int .i64 0]) (by simp [results, Tryd.results29, go_sem]) rfl ⟨_, rfl, H8.out.1, H8.out.2⟩
end
end Go.Proofs.YtghcfmkmndldoaaDoor

/-
  Get of a table.
-/
namespace Go.Proofs.YtghcfmkmndldoaaDoor
open Go.RowKit Go.Sort Go.Lib

/-- what Get answers -/
def GetP (fs : List Fc) (k : ByteArray) (w : World) (e : Ending) (w' : World) : Prop :=
  ∃ i : Nat, PosF fs (k, 18446744073709551615, []) i ∧ Below w.heap.size w w' ∧
    ((∃ f V, fs[i]? = some f ∧ f.1 = k ∧ e = .returned (.tuple #[fcV f V, .bool true]) ∧ Own w' w.heap.size V f.2.2) ∨
     ((∀ f, fs[i]? = some f → f.1 ≠ k) ∧ e = .returned (.tuple #[.agg #[.string ⟨#[]⟩, .int .u64 0, .slice none 0 0], .bool false])))
section
set_option maxRecDepth 100000
set_option maxHeartbeats 8000000
theorem tget_any (g : Nat) (A : Option Addr) (c : Nat) (fs : List Fc) (k : ByteArray) (w : World) (hc : Cells w g 131 [.slice A fs.length c]) (hl : fs.length ≤ 1099511627776) (hcc : fs.length ≤ c) (hri : fs.Pairwise Ahead) (hr : RF w w.heap.size A fs) (hx : ∀ f ∈ fs, f.2.2.length ≤ 1099511627776) :
    Calls Tryd.prog 33 #[.pointer (some ⟨g, 0, none⟩), .string k] w fun e w' => GetP fs k w e w' := by
  obtain ⟨W, hW⟩ : ∃ W, W = w.alloc (.cells #[.string ⟨#[]⟩, .int .u64 0, .slice none 0 0] 40) := ⟨_, rfl⟩
  have hC : Cells W w.heap.size 40 [.string ⟨#[]⟩, .int .u64 0, .slice none 0 0] := by rw [hW]; exact Cells.new w _ _
  have hB : Below w.heap.size w W := by rw [hW]; exact (Below.refl _ _).alloc (Nat.le_refl _) _
  have hT : Cells W g 131 [.slice A fs.length c] := hc.move (hB.block g hc.lt)
  have hrW : RF W W.heap.size A fs := (hr.below hB).wide hB.size
  have HPl := Lib.hid (place_any g A c fs k W hT hl hri hrW)
  have HC : Hid (Cells W w.heap.size 40 [.string ⟨#[]⟩, .int .u64 0, .slice none 0 0] ∧ Cells W g 131 [.slice A fs.length c] ∧ Below w.heap.size w W ∧ RF W W.heap.size A fs ∧ (∀ f ∈ fs, f.2.2.length ≤ 1099511627776) ∧ g < w.heap.size) := ⟨hC, hT, hB, hrW, hx, hc.lt⟩
  have hn1 : (fs.length : Int) ≤ 1099511627776 := by omega
  have Hlen : Hid (∀ k : Nat, k < fs.length → ∃ u, fs[k]? = some u) := fun k hk => ⟨_, List.getElem?_eq_getElem hk⟩
  obtain ⟨n, hn⟩ : ∃ n, n = fs.length := ⟨_, rfl⟩
  rw [← hn] at HC hn1 Hlen
  have Hn := Lib.hid hn
  clear hc hr hl hcc hri hx hC hB hT hrW hn
  go_enter Tryd.func33, Tryd.ntmps33
  go_upto_region 1 with fail
  rw [← hW]
  clear hW
  go_wp2_with fail
  refine HPl.out.mono ?_
  rintro e w1 ⟨i, rfl, hp, hg1⟩
  have H1 : Hid (Cells w1 w.heap.size 40 [.string ⟨#[]⟩, .int .u64 0, .slice none 0 0] ∧ Cells w1 g 131 [.slice A n c] ∧ Below w.heap.size w w1 ∧ RF w1 w1.heap.size A fs) :=
    ⟨HC.out.1.move (hg1.below.block _ HC.out.1.lt), HC.out.2.1.move (hg1.below.block _ HC.out.2.1.lt), HC.out.2.2.1.trans (hg1.below.mono HC.out.2.2.1.size), (HC.out.2.2.2.1.below hg1.below).wide hg1.below.size⟩
  have Hp := Lib.hid hp
  have hin : i ≤ n := by have := hp.1; have := Hn.out; omega
  have t0 := H1.out.2.1.cell (i := 0) rfl
  have f0 := H1.out.1.cell (i := 0) rfl
  have f1 := H1.out.1.cell (i := 1) rfl
  have f2 := H1.out.1.cell (i := 2) rfl
  have z0 := H1.out.1.frozen 0
  have z1 := H1.out.1.frozen 1
  have z2 := H1.out.1.frozen 2
  have hz := set3 H1.out.1 H1.out.2.2.1 (Nat.le_refl _) (.string ⟨#[]⟩) (.int .u64 0) (.slice none 0 0)
  clear HPl hp hg1
  by_cases hi : i = n
  · subst hi
    have Hno : Hid (∀ f, fs[i]? = some f → f.1 ≠ k) := fun f hf => by
      have := (List.getElem?_eq_some_iff.1 hf).1
      have := Hn.out
      omega
    go_wp2_with fail
    generalize (((w1.setCell ⟨w.heap.size, 0, none⟩ (.string ⟨#[]⟩)).setCell ⟨w.heap.size, 1, none⟩ (.int .u64 0)).setCell ⟨w.heap.size, 2, none⟩ (.slice none 0 0)) = WF at hz ⊢
    have q0 := hz.1.cell (i := 0) rfl
    have q1 := hz.1.cell (i := 1) rfl
    have q2 := hz.1.cell (i := 2) rfl
    exact bodyPost_ret (v := .tuple #[.agg #[.string ⟨#[]⟩, .int .u64 0, .slice none 0 0], .bool false]) (by simp [results, Tryd.results33, go_sem, q0, q1, q2]) rfl ⟨i, Hp.out, hz.2, .inr ⟨Hno.out, rfl⟩⟩
  · have hlt : i < n := by omega
    have hlt' : (i : Int) < (n : Int) := by omega
    have hi' : ¬ (i : Int) = (n : Int) := by omega
    have hi2 : ((i : Int) == (n : Int)) = false := by rw [beq_eq_false_iff_ne]; exact hi'
    obtain ⟨f, hf⟩ := Hlen.out i hlt
    obtain ⟨b, o, V, rfl, hblt, c0, c1, c2, ⟨A2, cv, rfl, v1, v2, v3⟩, hsq⟩ := H1.out.2.2.2.at_ hf
    have HK := Lib.hid (copied_any f (.slice A2 f.2.2.length cv) w1 ⟨A2, cv, rfl, v1, v2, v3⟩ (HC.out.2.2.2.2.1 f (List.mem_of_getElem? hf)))
    have Hf : Hid (fs[i]? = some f) := hf
    by_cases hk : f.1 = k
    · have Hk := Lib.hid hk
      have hk2 : (f.1.toList == k.toList) = true := by rw [hk]; simp
      unfold fcV at HK
      obtain ⟨fk, s, x⟩ := f
      dsimp only at HK c0 c1 c2 Hk hk hk2
      subst hk
      clear hf v1 v2 v3 hsq hlt hi hin Hlen hz
      go_wp2_with fail
      refine HK.out.mono ?_
      rintro e w4 ⟨V', rfl, ho4, hb4⟩
      have H4 : Hid (Cells w4 w.heap.size 40 [.string ⟨#[]⟩, .int .u64 0, .slice none 0 0] ∧ Below w.heap.size w w4) := ⟨H1.out.1.move (hb4.block _ H1.out.1.lt), H1.out.2.2.1.trans (hb4.mono H1.out.2.2.1.size)⟩
      obtain ⟨A5, c5, rfl, _⟩ := ho4.rb
      have hne : ∀ g', (Value.slice A5 x.length c5).ownBlock = some g' → g' ≠ w.heap.size := fun g' hg' e => by have := (ho4.lt g' hg').1; have := H1.out.1.lt; omega
      have y0 := H4.out.1.cell (i := 0) rfl
      have y1 := H4.out.1.cell (i := 1) rfl
      have y2 := H4.out.1.cell (i := 2) rfl
      have x0 := H4.out.1.frozen 0
      have x1 := H4.out.1.frozen 1
      have x2 := H4.out.1.frozen 2
      have hz := set3 H4.out.1 H4.out.2 (Nat.le_refl _) (.string fk) (.int .u64 (s : Int)) (.slice A5 x.length c5)
      have Hoz : Hid (Own (((w4.setCell ⟨w.heap.size, 0, none⟩ (.string fk)).setCell ⟨w.heap.size, 1, none⟩ (.int .u64 (s : Int))).setCell ⟨w.heap.size, 2, none⟩ (.slice A5 x.length c5)) w.heap.size (.slice A5 x.length c5) x) :=
        (ho4.wide H1.out.2.2.1.size).move fun g' hg' => ((Below.heap_setCell _ _ _ _ (hne g' hg')).trans (Below.heap_setCell _ _ _ _ (hne g' hg'))).trans (Below.heap_setCell _ _ _ _ (hne g' hg'))
      clear HK ho4 hb4 hne
      go_wp2_with fail
      generalize (((w4.setCell ⟨w.heap.size, 0, none⟩ (.string fk)).setCell ⟨w.heap.size, 1, none⟩ (.int .u64 (s : Int))).setCell ⟨w.heap.size, 2, none⟩ (.slice A5 x.length c5)) = WF at hz Hoz ⊢
      have q0 := hz.1.cell (i := 0) rfl
      have q1 := hz.1.cell (i := 1) rfl
      have q2 := hz.1.cell (i := 2) rfl
      exact bodyPost_ret (v := .tuple #[.agg #[.string fk, .int .u64 (s : Int), .slice A5 x.length c5], .bool true]) (by simp [results, Tryd.results33, go_sem, q0, q1, q2]) rfl ⟨i, Hp.out, hz.2, .inl ⟨(fk, s, x), .slice A5 x.length c5, Hf.out, rfl, rfl, Hoz.out⟩⟩
    · have Hno : Hid (∀ f', fs[i]? = some f' → f'.1 ≠ k) := fun f' hf' => by
        rw [hf] at hf'
        cases hf'
        exact hk
      have hk2 : (f.1.toList == k.toList) = false := by rw [textB_eq]; simp [hk]
      obtain ⟨fk, s, x⟩ := f
      dsimp only at c0 c1 c2 hk hk2
      clear hf v1 v2 v3 hsq hlt hi hin Hlen HK Hf
      go_wp2_with fail
      generalize (((w1.setCell ⟨w.heap.size, 0, none⟩ (.string ⟨#[]⟩)).setCell ⟨w.heap.size, 1, none⟩ (.int .u64 0)).setCell ⟨w.heap.size, 2, none⟩ (.slice none 0 0)) = WF at hz ⊢
      have q0 := hz.1.cell (i := 0) rfl
      have q1 := hz.1.cell (i := 1) rfl
      have q2 := hz.1.cell (i := 2) rfl
      exact bodyPost_ret (v := .tuple #[.agg #[.string ⟨#[]⟩, .int .u64 0, .slice none 0 0], .bool false]) (by simp [results, Tryd.results33, go_sem, q0, q1, q2]) rfl ⟨i, Hp.out, hz.2, .inr ⟨Hno.out, rfl⟩⟩
end
end Go.Proofs.YtghcfmkmndldoaaDoor

/-
  A table that is read again holds its facts.
-/
namespace Go.Proofs.YtghcfmkmndldoaaDoor

theorem leNat_of4 {v : Nat} (h : v < 4294967296) : leNat (leBytes 4 v) = v := by
  rw [leNat_leBytes]
  exact Nat.mod_eq_of_lt (by omega)
theorem unF_sumd (b : List UInt8) : unF (sumdF b) = some b := by
  unfold unF sumdF
  have h4 : (leBytes 4 (sumOf b)).length = 4 := leBytes_length _ _
  rw [if_pos ⟨by rw [List.length_append]; omega, by rw [List.take_left' h4, List.drop_left' h4, leNat_of4 (sumOf_lt b)]⟩, List.drop_left' h4]
theorem readBy_forth (x r : List UInt8) (most : Nat) (h : x.length ≤ most) (hm : most ≤ 1099511627776) : readBy (bytL x ++ r) (most : Int) = (x, (bytL x).length, 0) := by
  have hn : readNum (bytL x ++ r) = (x.length, (numBytes x.length).length, 0) := by
    unfold bytL
    rw [List.append_assoc]
    exact readNum_forth _ _ (by rw [two64_eq]; omega)
  unfold readBy
  rw [hn]
  dsimp only
  rw [if_neg (by simp), if_neg (by omega), if_neg (by unfold bytL; simp)]
  unfold bytL
  rw [List.append_assoc, List.drop_left' rfl, List.take_left' rfl, List.length_append]
def FitF (f : Fc) : Prop := f.1.size ≤ 1024 ∧ f.2.1 < two64 ∧ f.2.2.length ≤ 1048576
theorem rdF_wr (f : Fc) (r : List UInt8) (h : FitF f) : rdF (wrF f ++ r) = some (f, (wrF f).length) := by
  obtain ⟨k, s, x⟩ := f
  obtain ⟨h1, h2, h3⟩ := h
  dsimp only at h1 h2 h3
  have hk : k.data.toList.length = k.size := by rw [Array.length_toList]; rfl
  have e1 := readBy_forth k.data.toList (numBytes s ++ (bytL x ++ r)) 1024 (by omega) (by omega)
  have e2 := readNum_forth s (bytL x ++ r) h2
  have e3 := readBy_forth x r 1048576 h3 (by omega)
  have w1 : wrF (k, s, x) ++ r = bytL k.data.toList ++ (numBytes s ++ (bytL x ++ r)) := by unfold wrF; simp [List.append_assoc]
  unfold rdF
  rw [w1]
  rw [show ((1024 : Nat) : Int) = 1024 from rfl] at e1
  rw [show ((1048576 : Nat) : Int) = 1048576 from rfl] at e3
  dsimp only
  rw [e1]
  dsimp only
  rw [if_neg (by simp), List.drop_left' rfl, e2]
  dsimp only
  rw [if_neg (by simp)]
  have d2 : (bytL k.data.toList ++ (numBytes s ++ (bytL x ++ r))).drop ((bytL k.data.toList).length + (numBytes s).length) = bytL x ++ r := by
    rw [← List.append_assoc, List.drop_left' (by rw [List.length_append])]
  rw [d2, e3]
  dsimp only
  rw [if_neg (by simp)]
  have : (⟨k.data.toList.toArray⟩ : ByteArray) = k := by simp
  rw [this]
  unfold wrF
  simp [Nat.add_assoc]
theorem wrF_ne (f : Fc) : wrF f ≠ [] := fun h => by
  have h1 := congrArg List.length h
  unfold wrF bytL at h1
  have := numBytes_pos f.2.1
  simp only [List.length_append, List.length_nil] at h1
  omega
theorem fcsF_blk : ∀ (l : List Fc), (∀ f ∈ l, FitF f) → fcsF (blkF l) = some l
  | [], _ => fcsF_nil
  | f :: l, h => by
    have e : blkF (f :: l) = wrF f ++ blkF l := rfl
    have hne : wrF f ++ blkF l ≠ [] := fun q => wrF_ne f (List.append_eq_nil_iff.1 q).1
    rw [e, fcsF_some hne (rdF_wr f _ (h f List.mem_cons_self)), List.drop_left' rfl, fcsF_blk l fun g hg => h g (List.mem_cons_of_mem _ hg)]
    rfl
theorem entR_ent (k : ByteArray) (n left : Nat) (r : List UInt8) (hk : k.size ≤ 1024) (h5 : 5 ≤ n) (hl : n ≤ left) (hn : n < two64) : entR (entF k n ++ r) left = some ((k, n), (entF k n).length) := by
  have hk2 : k.data.toList.length = k.size := by rw [Array.length_toList]; rfl
  have e1 := readBy_forth k.data.toList (numBytes n ++ r) 1024 (by omega) (by omega)
  rw [show ((1024 : Nat) : Int) = 1024 from rfl] at e1
  have e2 := readNum_forth n r hn
  unfold entR
  rw [show entF k n ++ r = bytL k.data.toList ++ (numBytes n ++ r) by unfold entF; simp]
  dsimp only
  rw [e1]
  dsimp only
  rw [if_neg (by simp), List.drop_left' rfl, e2]
  dsimp only
  rw [if_neg (by omega)]
  have : (⟨k.data.toList.toArray⟩ : ByteArray) = k := by simp
  rw [this]
  unfold entF
  simp
theorem blkF_pos (f : Fc) (l : List Fc) : 0 < (blkF (f :: l)).length := by
  have e : blkF (f :: l) = wrF f ++ blkF l := rfl
  have := List.length_pos_iff.2 (wrF_ne f)
  rw [e, List.length_append]
  omega
theorem oneF_blk (f : Fc) (l : List Fc) (h : ∀ g ∈ f :: l, FitF g) : oneF f.1 (sumdF (blkF (f :: l))) = (f :: l, 0) := by
  unfold oneF
  rw [unF_sumd]
  dsimp only
  rw [fcsF_blk _ h]
  dsimp only
  rw [if_pos rfl]
theorem body_back (block : Nat) : ∀ (n : Nat) (l : List Fc), l.length ≤ n → (∀ f ∈ l, FitF f) → (blkF l).length < 9223372036854775808 →
    ∃ ps, partsF (bodyF block l).2 (bodyF block l).1.length = some ps ∧ goC (cutsF ps (bodyF block l).1) = (l, 0)
  | 0, l, hn, _, _ => by
    have : l = [] := List.eq_nil_of_length_eq_zero (by omega)
    subst this
    rw [bodyF_nil]
    exact ⟨[], by rw [partsF_nil]; rfl, rfl⟩
  | n + 1, [], _, _, _ => by
    rw [bodyF_nil]
    exact ⟨[], by rw [partsF_nil]; rfl, rfl⟩
  | n + 1, f :: l, hn, hf, hb => by
    rw [bodyF_cons]
    dsimp only
    have hp := frontN_pos block 0 (l := f :: l) (by simp)
    generalize frontN block 0 (f :: l) = m at *
    obtain ⟨m', rfl⟩ : ∃ m', m = m' + 1 := ⟨m - 1, by omega⟩
    have ht : (f :: l).take (m' + 1) = f :: l.take m' := rfl
    have hd : (f :: l).drop (m' + 1) = l.drop m' := rfl
    have hsplit : (blkF (f :: l)).length = (blkF (f :: l.take m')).length + (blkF (l.drop m')).length := by
      rw [← List.length_append]
      congr 1
      unfold blkF
      rw [← List.flatMap_append, List.cons_append, List.take_append_drop]
    obtain ⟨ps, h1, h2⟩ := body_back block n (l.drop m') (by rw [List.length_drop]; simp at hn; omega) (fun g hg => hf g (List.mem_cons_of_mem _ (List.mem_of_mem_drop hg))) (by omega)
    rw [ht, hd]
    have hpos := blkF_pos f (l.take m')
    have hfk := hf f List.mem_cons_self
    have hfl : ∀ g ∈ f :: l.take m', FitF g := fun g hg => by
      rcases List.mem_cons.1 hg with rfl | hg
      · exact hfk
      · exact hf g (List.mem_cons_of_mem _ (List.mem_of_mem_take hg))
    have hone := oneF_blk f (l.take m') hfl
    have hsl : (sumdF (blkF (f :: l.take m'))).length = 4 + (blkF (f :: l.take m')).length := sumdF_length _
    generalize bodyF block (l.drop m') = r at *
    obtain ⟨T, X⟩ := r
    dsimp only at h1 h2 ⊢
    generalize sumdF (blkF (f :: l.take m')) = sd at *
    generalize (blkF (f :: l.take m')).length = bl at *
    have hent := entR_ent f.1 (4 + bl) (sd ++ T).length X hfk.1 (by omega) (by rw [List.length_append]; omega) (by rw [two64_eq]; omega)
    have hne : entF f.1 (4 + bl) ++ X ≠ [] := fun q => by
      have q1 := (entR_ok hent).1
      have q2 := (entR_ok hent).2.1
      rw [q, List.length_nil] at q2
      omega
    refine ⟨(f.1, 4 + bl) :: ps, ?_, ?_⟩
    · rw [partsF_some hne hent, List.drop_left' rfl]
      dsimp only
      rw [show (sd ++ T).length - (4 + bl) = T.length by rw [List.length_append]; omega, h1]
      rfl
    · rw [cutsF, List.take_left' (by omega), List.drop_left' (by omega), goC, hone, h2]
      simp
theorem tab_back (block : Nat) (fs : List Fc) (hf : ∀ f ∈ fs, FitF f) (hr : rightF fs = true) (hb : (blkF fs).length < 9223372036854775808) (hl : fs.length < 4294967296) (hx : (sumdF (bodyF block fs).2).length < 4294967296) : openF (tabF block fs) = (fs, 0) := by
  obtain ⟨ps, h1, h2⟩ := body_back block fs.length fs (Nat.le_refl _) hf hb
  unfold tabF
  generalize bodyF block fs = r at *
  obtain ⟨T, X⟩ := r
  dsimp only at h1 h2 hx ⊢
  have hft : (footF (sumdF X).length fs.length).length = 12 := by unfold footF; rw [List.length_append, List.length_append, leBytes_length, leBytes_length, leBytes_length]
  have hlen : (T ++ (sumdF X ++ footF (sumdF X).length fs.length)).length = T.length + (sumdF X).length + 12 := by rw [List.length_append, List.length_append, hft]; omega
  have hd : (T ++ (sumdF X ++ footF (sumdF X).length fs.length)).drop (T.length + (sumdF X).length) = footF (sumdF X).length fs.length := by
    rw [← List.append_assoc, List.drop_left' (by rw [List.length_append])]
  have ht : (T ++ (sumdF X ++ footF (sumdF X).length fs.length)).take (T.length + (sumdF X).length) = T ++ sumdF X := by
    rw [← List.append_assoc, List.take_left' (by rw [List.length_append])]
  have f4 : ∀ v, (leBytes 4 v).length = 4 := fun v => leBytes_length _ _
  have g1 : (footF (sumdF X).length fs.length).take 4 = leBytes 4 (sumdF X).length := by
    unfold footF; rw [List.append_assoc, List.take_left' (f4 _)]
  have g2 : ((footF (sumdF X).length fs.length).drop 4).take 4 = leBytes 4 fs.length := by
    unfold footF; rw [List.append_assoc, List.drop_left' (f4 _), List.take_left' (f4 _)]
  have g3 : (footF (sumdF X).length fs.length).take 8 = leBytes 4 (sumdF X).length ++ leBytes 4 fs.length := by
    unfold footF; rw [List.take_left' (by rw [List.length_append, f4, f4])]
  have g4 : ((footF (sumdF X).length fs.length).drop 8).take 4 = leBytes 4 (sumOf (leBytes 4 (sumdF X).length ++ leBytes 4 fs.length)) := by
    unfold footF; rw [List.drop_left' (by rw [List.length_append, f4, f4]), List.take_of_length_le (by rw [f4]; omega)]
  have k1 := leNat_of4 hx
  have k2 := leNat_of4 hl
  have k3 := leNat_of4 (sumOf_lt (leBytes 4 (sumdF X).length ++ leBytes 4 fs.length))
  have hu : ((T ++ sumdF X).drop T.length) = sumdF X := List.drop_left' rfl
  have hgo : goF ps T = (fs, 0) := by rw [goF_cuts, h2]
  unfold openF
  dsimp only
  rw [hlen, if_neg (by omega), show T.length + (sumdF X).length + 12 - 12 = T.length + (sumdF X).length by omega, hd, ht, g1, g2, g3, g4, k1, k2, k3, if_neg (by simp), if_neg (by omega), show T.length + (sumdF X).length - (sumdF X).length = T.length by omega, hu, unF_sumd]
  dsimp only
  rw [h1]
  dsimp only
  have htk : (T ++ (sumdF X ++ footF (sumdF X).length fs.length)).take T.length = T := List.take_left' rfl
  rw [htk, hgo, if_neg (by simp), if_pos ⟨rfl, hr⟩]
end Go.Proofs.YtghcfmkmndldoaaDoor

/-
  The law's known.
-/
namespace Go.Proofs.YtghcfmkmndldoaaDoor
open Go.RowKit Go.Sort Go.Lib

def kFact : Fc := (⟨#[107]⟩, 3, [118])
theorem k_build0 : buildE [] 10 = 0 := by decide
theorem k_len0 : (buildB [] 10).length = 16 := by
  unfold buildB
  rw [if_pos k_build0]
  unfold tabF
  rw [bodyF_nil, List.length_append, List.length_append, sumdF_length]
  unfold footF
  rw [List.length_append, List.length_append, leBytes_length, leBytes_length, leBytes_length]
  rfl
theorem k_open0 : openF (buildB [] 10) = ([], 0) := by
  unfold buildB
  rw [if_pos k_build0]
  exact tab_back _ [] (fun f h => by cases h) rfl (by show 0 < _; omega) (by show 0 < _; omega) (by rw [bodyF_nil, sumdF_length]; show 4 < _; omega)
theorem k_fit : FitF kFact := ⟨by show 1 ≤ _; omega, by show 3 < _; rw [two64_eq]; omega, by show 1 ≤ _; omega⟩
theorem k_build1 : buildE [kFact] 10 = 0 := by decide
theorem k_blk : (blkF [kFact]).length = 5 := by
  have e : blkF [kFact] = wrF kFact := by simp [blkF]
  rw [e]
  unfold wrF bytL
  have h1 : numBytes kFact.1.data.toList.length = [1] := by rw [numBytes_lt (by show 1 < 128; omega)]; rfl
  have h2 : numBytes kFact.2.1 = [3] := by rw [numBytes_lt (by show 3 < 128; omega)]; rfl
  have h3 : numBytes kFact.2.2.length = [1] := by rw [numBytes_lt (by show 1 < 128; omega)]; rfl
  rw [h1, h2, h3]
  rfl
theorem k_body : (bodyF 10 [kFact]).2.length ≤ 100 := by
  have h := frontN_pos 10 0 (l := [kFact]) (by simp)
  have h2 := frontN_le 10 [kFact] 0
  rw [bodyF_cons]
  rw [show frontN 10 0 [kFact] = 1 by simp at h2; omega]
  rw [show [kFact].drop 1 = [] from rfl, show [kFact].take 1 = [kFact] from rfl, bodyF_nil, k_blk]
  dsimp only
  have := entF_length kFact.1 (4 + 5) (by show 1 < _; rw [two64_eq]; omega) (by rw [two64_eq]; omega)
  have h1 : kFact.1.size = 1 := rfl
  rw [List.append_nil]
  omega
theorem k_open1 : openF (buildB [kFact] 10) = ([kFact], 0) := by
  unfold buildB
  rw [if_pos k_build1]
  refine tab_back _ [kFact] (fun f h => by rw [List.mem_singleton.1 h]; exact k_fit) rfl (by rw [k_blk]; omega) (by show 1 < _; omega) ?_
  rw [sumdF_length]
  have := k_body
  show 4 + (bodyF 10 [kFact]).2.length < _
  omega
theorem k_len1 : (buildB [kFact] 10).length ≤ 1000 := by
  unfold buildB
  rw [if_pos k_build1]
  unfold tabF
  have := bodyF_len 10 1 [kFact] (Nat.le_refl _) (by rw [k_blk]; omega)
  rw [k_blk] at this
  have h2 := k_body
  have h3 : [kFact].length = 1 := rfl
  rw [List.length_append, List.length_append, sumdF_length]
  unfold footF
  rw [List.length_append, List.length_append, leBytes_length, leBytes_length, leBytes_length]
  show (bodyF 10 [kFact]).1.length + (4 + (bodyF 10 [kFact]).2.length + _) ≤ _
  omega
theorem k_get {w w' : World} {e : Ending} (h : GetP [kFact] ⟨#[107]⟩ w e w') : Below w.heap.size w w' ∧ ∃ V, e = .returned (.tuple #[.agg #[.string ⟨#[107]⟩, .int .u64 3, V], .bool true]) ∧ Own w' w.heap.size V [118] := by
  obtain ⟨i, ⟨hp1, hp2, _⟩, hb, ⟨f, V, h1, h2, h3, h4⟩ | ⟨h1, _⟩⟩ := h
  · have : f = kFact := by
      have := List.mem_of_getElem? h1
      exact List.mem_singleton.1 this
    subst this
    exact ⟨hb, V, h3, h4⟩
  · exfalso
    have h0 : i = 0 := by
      rcases i with _ | i
      · rfl
      · have := hp2 0 kFact (by omega) rfl
        have h0 : cmpF kFact (⟨#[107]⟩, 18446744073709551615, []) = 1 := by
          unfold cmpF
          rw [if_neg (by rw [ne_eq, Decidable.not_not]; exact cmpK_zero.2 rfl), if_neg (by show ¬ 18446744073709551615 < 3; omega), if_pos (by show 3 < 18446744073709551615; omega)]
        rw [h0] at this
        omega
    subst h0
    exact h1 kFact rfl rfl
theorem k_get2 {w w' : World} {e : Ending} (h : GetP [kFact] ⟨#[108]⟩ w e w') : Below w.heap.size w w' ∧ e = .returned (.tuple #[.agg #[.string ⟨#[]⟩, .int .u64 0, .slice none 0 0], .bool false]) := by
  obtain ⟨i, _, hb, ⟨f, V, h1, h2, h3, h4⟩ | ⟨_, h1⟩⟩ := h
  · exfalso
    have : f = kFact := List.mem_singleton.1 (List.mem_of_getElem? h1)
    subst this
    revert h2
    decide
  · exact ⟨hb, h1⟩
end Go.Proofs.YtghcfmkmndldoaaDoor

/-
  The second saying's Merge.
-/
namespace Go.Proofs.YtghcfmkmndldoaaDoor
open Go.RowKit Go.Sort Go.Lib

theorem mergeF_snoc {ls : List (List Fc)} {i : Nat} {l : List Fc} (h : ls[i]? = some l) : mergeF (ls.take (i + 1)) = twoF (mergeF (ls.take i)) l := by
  unfold mergeF
  rw [List.take_add_one, h, List.foldl_append]
  rfl
theorem sumL_take (ls : List (List Fc)) (i : Nat) : sumL (ls.take i) ≤ sumL ls := by
  have := sumL_append (ls.take i) (ls.drop i)
  rw [List.take_append_drop] at this
  omega
section
set_option maxRecDepth 100000
set_option maxHeartbeats 8000000
theorem rmerge_any (A : Option Addr) (c : Nat) (ls : List (List Fc)) (w : World) (hl : ls.length ≤ 1099511627776) (hs : sumL ls ≤ 1048576) (hr : RFF w w.heap.size A ls) :
    Calls Tryd.prog 26 #[.slice A ls.length c] w fun e w' => ∃ A' c', e = .returned (.tuple #[.slice A' (mergB ls).length c', .int .i64 (mergE ls : Nat)]) ∧ RF w' w'.heap.size A' (mergB ls) ∧ Below w.heap.size w w' := by
  have Hr := Lib.hid hr
  have Hs := Lib.hid hs
  have hE : Hid (mergE ls = if ls.all rightF = true then 0 else 25) := rfl
  have hB : Hid (mergB ls = if mergE ls = 0 then mergeF ls else []) := rfl
  have Hlen : Hid (∀ k : Nat, k < ls.length → ∃ u, ls[k]? = some u) := fun k hk => ⟨_, List.getElem?_eq_getElem hk⟩
  have hn1 : (ls.length : Int) ≤ 1099511627776 := by omega
  obtain ⟨n, hn⟩ : ∃ n, n = ls.length := ⟨_, rfl⟩
  obtain ⟨me, hme⟩ : ∃ me, me = mergE ls := ⟨_, rfl⟩
  rw [← hme] at hE hB
  rw [← hn] at hn1 Hlen
  rw [← hn, ← hme]
  have Hn := Lib.hid hn
  obtain ⟨mb, hmb⟩ : ∃ mb, mb = mergB ls := ⟨_, rfl⟩
  rw [← hmb] at hB ⊢
  clear hr hl hs hn hme hmb
  go_enter Tryd.func26, Tryd.ntmps26
  go_wp2_with fail
  go_loopw [4] (fun iv wr => ∃ i : Nat, iv = .int .i64 (i : Int) ∧ i ≤ n ∧ Hid ((ls.take i).all rightF = true) ∧ Hid (Gr w wr)) (fun iv _ => n - (intOf iv).toNat)
  case atStart => exact ⟨0, rfl, Nat.zero_le _, rfl, Gr.refl w⟩
  case round =>
    obtain ⟨i, rfl, hi, hall, hg⟩ := hrel
    by_cases hlt : i < n
    · obtain ⟨l, hli⟩ := Hlen.out i hlt
      obtain ⟨b, o, A', cl, rfl, hblt, x0, x1, x2⟩ := (Hr.out.below hg.out.below) i l hli
      have hlt' : (i : Int) < (n : Int) := by omega
      have hll : l.length ≤ 1099511627776 := by
        have := sumL_mem (List.mem_of_getElem? hli)
        have := Hs.out
        omega
      have HRt := Lib.hid (rright_any A' cl l wr hll (x2.wide hg.out.below.size))
      have Hall : Hid (rightF l = true → (ls.take (i + 1)).all rightF = true) := fun hq => by
        rw [List.take_add_one, hli, List.all_append, hall.out]
        simp [hq]
      have Hno : Hid (rightF l = false → me = 25) := fun hq => by
        rw [hE.out, if_neg]
        intro h
        have := List.all_eq_true.1 h l (List.mem_of_getElem? hli)
        rw [hq] at this
        cases this
      have Hw : Hid (∀ w2, Gr wr w2 → Gr w w2) := fun w2 h2 => hg.out.trans h2
      generalize rightF l = q at HRt Hall Hno
      clear hli hall hg hlt Hlen x1 x2 hll hblt
      cases q with
      | true =>
        have Ha := Lib.hid (Hall.out rfl)
        clear Hall Hno
        go_wp2_with fail
        refine HRt.out.mono ?_
        rintro e w2 ⟨rfl, hg2⟩
        have Hg2 := Lib.hid (Hw.out w2 hg2)
        clear hg2 HRt x0 Hw
        go_wp2_with fail
        go_roundw
        case rel => exact ⟨i + 1, by go_num, by omega, Ha.out, Hg2.out⟩
        case measure => simp [intOf]; omega
      | false =>
        obtain rfl : me = 25 := Hno.out rfl
        have hmb : mb = [] := by rw [hB.out, if_neg (by decide)]
        subst hmb
        clear Hall Hno hE hB
        go_wp2_with fail
        refine HRt.out.mono ?_
        rintro e w2 ⟨rfl, hg2⟩
        have Hg2 := Lib.hid (Hw.out w2 hg2).below
        clear hg2 HRt x0 Hw
        go_wp2_with fail
        exact bodyPost_ret (v := .tuple #[.slice none 0 0, .int .i64 25]) (by simp [results, Tryd.results26, go_sem]) rfl ⟨none, 0, rfl, RF.nil _ _ _, Hg2.out⟩
    · obtain rfl : i = n := by omega
      have hal : ls.all rightF = true := by
        have := hall.out
        rw [Hn.out, List.take_of_length_le (Nat.le_refl _)] at this
        exact this
      obtain rfl : me = 0 := by rw [hE.out, if_pos hal]
      have Hmb : Hid (mb = mergeF ls) := by show _ = _; rw [hB.out, if_pos rfl]
      have Hpw : Hid (∀ l ∈ ls, l.Pairwise Ahead) := fun l hl => rightF_pair.1 (List.all_eq_true.1 hal l hl)
      have Hb0 := Lib.hid hg.out.below
      clear hal hall hg hE hB
      go_wp2_with fail
      go_loopw [5, 6] (fun lv jv wr2 => ∃ (j c' : Nat) (A' : Option Addr), jv = .int .i64 (j : Int) ∧ j ≤ i ∧ lv = .slice A' (mergeF (ls.take j)).length c' ∧ Hid (RF wr2 wr2.heap.size A' (mergeF (ls.take j)) ∧ Below w.heap.size w wr2)) (fun _ jv _ => i - (intOf jv).toNat)
      case atStart => exact ⟨0, 0, none, rfl, Nat.zero_le _, rfl, RF.nil _ _ _, Hb0.out⟩
      case round =>
        obtain ⟨j, cl, Al, rfl, hj, rfl, hst⟩ := hrel
        by_cases hlt : j < i
        · obtain ⟨l, hlj⟩ := Hlen.out j hlt
          obtain ⟨b, o, A', cl2, rfl, hblt, x0, x1, x2⟩ := (Hr.out.below hst.out.2) j l hlj
          have hlt' : (j : Int) < (i : Int) := by omega
          have hml := mergeF_length (ls.take j) fun x hx => Hpw.out x (List.mem_of_mem_take hx)
          have hst1 := sumL_take ls j
          have hll := sumL_mem (List.mem_of_getElem? hlj)
          have HT := Lib.hid (rtwo_any Al A' cl cl2 (mergeF (ls.take j)) l _ (by have := Hs.out; omega) hst.out.1 (x2.wide hst.out.2.size))
          have Hsn : Hid (mergeF (ls.take (j + 1)) = twoF (mergeF (ls.take j)) l) := mergeF_snoc hlj
          rw [← Hsn.out] at HT
          have Hst := hst
          clear hst hlt hlj hblt x1 x2 hml hst1 hll Hlen Hsn
          go_wp2_with fail
          refine HT.out.mono ?_
          rintro e w4 ⟨v4, rfl, hr4, hb4⟩
          obtain ⟨A4, c4, rfl, _, _, hr5, _⟩ := hr4.rd fun V x hV => (hV.below hb4).wide hb4.size
          have H4 : Hid (RF w4 w4.heap.size A4 (mergeF (ls.take (j + 1))) ∧ Below w.heap.size w w4) := ⟨hr5, Hst.out.2.trans (hb4.mono Hst.out.2.size)⟩
          clear hr4 hb4 hr5 HT x0 Hst
          go_wp2_with fail
          go_roundw
          case rel => exact ⟨j + 1, c4, A4, by go_num, by omega, rfl, H4.out⟩
          case measure => simp [intOf]; omega
        · obtain rfl : j = i := by omega
          have he : ls.take j = ls := by rw [Hn.out]; exact List.take_of_length_le (Nat.le_refl _)
          rw [he] at hst ⊢
          rw [← Hmb.out] at hst ⊢
          have Hst := hst
          clear hst he
          go_wp2_with fail
          exact bodyPost_ret (v := .tuple #[.slice Al mb.length cl, .int .i64 0]) (by simp [results, Tryd.results26, go_sem]) rfl ⟨Al, cl, rfl, Hst.out.1, Hst.out.2⟩
end
end Go.Proofs.YtghcfmkmndldoaaDoor

/-
  over: the iterator over a table's facts.
-/
namespace Go.Proofs.YtghcfmkmndldoaaDoor
open Go.RowKit Go.Sort Go.Lib Go.Shelf

section
set_option maxRecDepth 100000
set_option maxHeartbeats 8000000
theorem over1_any (n l n₀ Bn : Nat) (A : Option Addr) (c : Nat) (fs : List Fc) (J : List (Fc × Value) → World → Prop)
    (hJ : ∀ ps W W', J ps W → Below W.heap.size W W' → J ps W')
    (hY : ∀ ps f V W1, J ps W1 → ps.length < fs.length → Own W1 n₀ V f.2.2 → f.2.1 < two64 → n₀ ≤ W1.heap.size → YieldAt Fence.wide (n - 1) Tryd.prog l #[fcV f V] W1 fun e W' => e = .returned (.bool true) ∧ J (ps ++ [(f, V)]) W' ∧ Below n₀ W1 W')
    (W : World) (hBn : W.cell? ⟨Bn, 0, none⟩ = some (.slice A fs.length c)) (hr : RF W n₀ A fs) (hn₀ : n₀ ≤ W.heap.size) (hl : fs.length ≤ 1099511627776) (hx : ∀ f ∈ fs, f.2.2.length ≤ 1099511627776) (h0 : J [] W) :
    CallsIn Fence.wide n Tryd.prog 109 #[.func (.yield l) #[] #[], .pointer (some ⟨Bn, 0, none⟩)] W fun e W' => (∃ v, e = .returned v) ∧ ∃ ps, ps.map Prod.fst = fs ∧ J ps W' := by
  have H0 : Hid (RF W n₀ A fs ∧ J [] W ∧ n₀ ≤ W.heap.size ∧ ∀ f ∈ fs, f.2.2.length ≤ 1099511627776) := ⟨hr, h0, hn₀, hx⟩
  have HJ := Lib.hid hJ
  have HY := Lib.hid hY
  have Hlen : Hid (∀ k : Nat, k < fs.length → ∃ u, fs[k]? = some u) := fun k hk => ⟨_, List.getElem?_eq_getElem hk⟩
  have hl' : ((fs.length : Nat) : Int) ≤ 1099511627776 := by omega
  obtain ⟨m, hm⟩ : ∃ m, m = fs.length := ⟨_, rfl⟩
  rw [← hm] at hBn hl' Hlen
  have Hm := Lib.hid hm
  clear hr h0 hn₀ hl hJ hY hx hm
  refine callsIn_of_wp Tryd.func109 rfl trivial ?_ rfl
  simp only [Tryd.ntmps109, List.size_toArray, List.length_cons, List.length_nil, Nat.reduceAdd, Nat.reduceSub, Array.replicate_succ, Array.replicate_zero, List.push_toArray, List.append_toArray, List.nil_append, List.cons_append]
  gi_wp2
  gi_loopw [7] (fun iv wr => ∃ (i : Nat) (ps : List (Fc × Value)), iv = .int .i64 (i : Int) ∧ i ≤ m ∧ Hid (ps.map Prod.fst = fs.take i ∧ J ps wr ∧ Below n₀ W wr)) (fun iv _ => m - (intOf iv).toNat)
  case atStart => exact ⟨0, [], rfl, Nat.zero_le _, rfl, H0.out.2.1, Below.refl _ _⟩
  case round =>
    obtain ⟨i, ps, rfl, hi, hst⟩ := hrel
    by_cases hlt : i < m
    · obtain ⟨f, hf⟩ := Hlen.out i hlt
      have hlt' : (i : Int) < (m : Int) := by omega
      obtain ⟨b, o, V, rfl, hblt, c0, c1, c2, hV, hs64⟩ := (H0.out.1.below hst.out.2.2).at_ hf
      have hfx := H0.out.2.2.2 f (List.mem_of_getElem? hf)
      have hpl : ps.length = i := by
        have := congrArg List.length hst.out.1
        rw [List.length_map, List.length_take] at this
        have := Hm.out
        omega
      have hnext : (ps ++ [(f, undef)]).map Prod.fst = fs.take (i + 1) := by
        rw [List.map_append, hst.out.1, List.take_add_one, hf]
        rfl
      have Hn : Hid (ps.length < fs.length ∧ (∀ V', (ps ++ [(f, V')]).map Prod.fst = fs.take (i + 1)) ∧ f.2.1 < two64 ∧ n₀ ≤ wr.heap.size) := ⟨by rw [hpl, ← Hm.out]; exact hlt, fun V' => by rw [← hnext]; simp, hs64, by have := H0.out.2.2.1; have := hst.out.2.2.size; omega⟩
      obtain ⟨Wa, hWa⟩ : ∃ Wa, Wa = wr.alloc (.cells #[.string f.1, .int .u64 (f.2.1 : Int), V] 40) := ⟨_, rfl⟩
      have hBa : Below wr.heap.size wr Wa := by rw [hWa]; exact (Below.refl _ _).alloc (Nat.le_refl _) _
      have hCa : Cells Wa wr.heap.size 40 [.string f.1, .int .u64 (f.2.1 : Int), V] := by rw [hWa]; exact Cells.new wr _ _
      have hVa : Vb Wa Wa.heap.size V f.2.2 := (hV.wide Hn.out.2.2.2).below hBa |>.wide hBa.size
      have HC := Lib.hid (copied_any f V Wa hVa hfx)
      obtain ⟨A2, cv, rfl, _⟩ := hV
      unfold fcV at HC HY
      have HB : Hid (Below wr.heap.size wr Wa ∧ Cells Wa wr.heap.size 40 [.string f.1, .int .u64 (f.2.1 : Int), .slice A2 f.2.2.length cv]) := ⟨hBa, hCa⟩
      have d0 := hCa.cell (i := 0) rfl
      have d1 := hCa.cell (i := 1) rfl
      have d2 := hCa.cell (i := 2) rfl
      obtain ⟨fk, fsq, fv⟩ := f
      dsimp only at *
      have Hst := hst
      clear hst hf hblt hs64 hfx hpl hnext hBa hCa hVa hBn Hlen hlt
      gi_wp2
      rw [← hWa]
      clear hWa
      refine ⟨trivial, (fun h => by cases h), (callsIn_wide.2 HC.out).mono ?_⟩
      rintro e w2 ⟨V', rfl, ho2, hb2⟩
      have hb02 : Below wr.heap.size wr w2 := HB.out.1.trans (hb2.mono HB.out.1.size)
      have ho2' : Own w2 n₀ V' fv := ho2.wide (Nat.le_trans Hn.out.2.2.2 HB.out.1.size)
      obtain ⟨A3, c3, rfl, _⟩ := ho2.rb
      obtain ⟨yfn, ytmps, yassign, ybody, hy, hR⟩ := HY.out ps (fk, fsq, fv) (.slice A3 fv.length c3) w2 (HJ.out _ _ _ Hst.out.2.1 hb02) Hn.out.1 ho2' Hn.out.2.2.1 (Nat.le_trans Hn.out.2.2.2 hb02.size)
      have HRr := Lib.hid hR
      have hy2 : (Instr.yield l #[.agg #[.string fk, .int .u64 (fsq : Int), .slice A3 fv.length c3]]).run Tryd.prog w2 = .ok (.round l yfn ytmps yassign ybody) w2 := hy
      have H2 : Hid (Below wr.heap.size wr w2) := hb02
      clear hy hR ho2 hb2 ho2' hb02 HC
      gi_wp2
      refine ⟨(fun h => by cases h), HRr.out.mono ?_⟩
      rintro e W3 ⟨rfl, hJ3, hb3⟩
      have H3 : Hid (J (ps ++ [((fk, fsq, fv), .slice A3 fv.length c3)]) W3 ∧ Below n₀ W W3) := ⟨hJ3, Hst.out.2.2.trans ((H2.out.mono Hn.out.2.2.2).trans hb3)⟩
      clear hJ3 hb3 HRr hy2
      gi_wp2
      go_roundw
      case rel => exact ⟨i + 1, ps ++ [((fk, fsq, fv), .slice A3 fv.length c3)], by go_num, by omega, Hn.out.2.1 _, H3.out.1, H3.out.2⟩
      case measure => simp [intOf]; omega
    · obtain rfl : i = m := by omega
      have Hend : Hid (ps.map Prod.fst = fs ∧ J ps wr) := ⟨by rw [hst.out.1, Hm.out, List.take_of_length_le (Nat.le_refl _)], hst.out.2.1⟩
      clear hst hlt
      gi_wp2
      go_end0
      exact ⟨⟨_, rfl⟩, ps, Hend.out.1, Hend.out.2⟩
end
end Go.Proofs.YtghcfmkmndldoaaDoor

/-
  over, All; what a range over them keeps.
-/
namespace Go.Proofs.YtghcfmkmndldoaaDoor
open Go.RowKit Go.Sort Go.Lib Go.Shelf

/-- where a range that gathers a table's facts stands -/
structure GSt (w : World) (n₀ l D g6 : Nat) (rc : Obj) (ps : List (Fc × Value)) (X : World) : Prop where
  rcd : X.heap[l]? = some rc
  dfr : X.heap[D]? = some (.deferred (some []))
  row : ∃ v, Cells X g6 42 [v] ∧ X.ownsRow n₀ 40 3 v ps.length (cellsF ps)
  vs : VS (Own X n₀) ps
  bel : Below w.heap.size w X
theorem GSt.kept {w X X' : World} {n₀ l D g6 : Nat} {rc rc' : Obj} {ps : List (Fc × Value)} {K : Nat → Prop} (h : GSt w n₀ l D g6 rc ps X) (hk : Kept K X X') (hr : X'.heap[l]? = some rc')
    (hD : K D) (h6 : K g6) (hK : ∀ b cs t z, X.heap[b]? = some (.cells cs t z) → (t = 40 ∨ t = 5) → K b) (hw : ∀ b, b < w.heap.size → K b) : GSt w n₀ l D g6 rc' ps X' := by
  obtain ⟨v, hv1, hv2⟩ := h.row
  have hlt : ∀ {b o}, X.heap[b]? = some o → b < X.heap.size := fun e => (Array.getElem?_eq_some_iff.1 e).1
  refine ⟨hr, (hk.block _ (hlt h.dfr) hD).trans h.dfr, ⟨v, hv1.move (hk.block _ hv1.lt h6), hv2.1, ?_⟩, fun p hp => ⟨(h.vs p hp).1.move (fun g hg => ?_), (h.vs p hp).2⟩, h.bel.trans (hk.to_below hw h.bel.size)⟩
  · rcases hv2.2 with q | ⟨g0, cap, cur, hv, hg, hh, r⟩
    · exact .inl q
    · exact .inr ⟨g0, cap, cur, hv, hg, (hk.block g0 (hlt hh) (hK g0 _ _ _ hh (.inl rfl))).trans hh, r⟩
  · rcases (h.vs p hp).1.2 with ⟨e, _⟩ | ⟨g', cap, cur, e, _, hgg, _⟩
    · rw [e] at hg; cases hg
    · rw [e] at hg
      cases hg
      exact hk.block _ (hlt hgg) (hK _ _ _ _ hgg (.inr rfl))
theorem GSt.step {w Wb w' : World} {n₀ l D g6 : Nat} {v v' V : Value} {rb rr : Obj} {ps : List (Fc × Value)} {f : Fc} (o : Obj) (h : GSt w n₀ l D g6 rb ps Wb) (hv : Cells Wb g6 42 [v]) (hr : Wb.ownsRow n₀ 40 3 v ps.length (cellsF ps))
    (hV : Own Wb n₀ V f.2.2) (hs : f.2.1 < two64) (ho : w'.ownsRow n₀ 40 3 v' (ps.length + 1) (cellsF ps ++ cellF (f, V))) (hg : (Wb.alloc o).grownBy w' v.ownBlock)
    (hn6 : n₀ ≤ g6) (hnw : w.heap.size ≤ n₀) (hnl : n₀ ≤ l) (hDl : D ≠ l) (hnc : ∀ cs t z, rb ≠ .cells cs t z) :
    Cells w' g6 42 [v] ∧ (w'.setCell ⟨g6, 0, none⟩ v').heap[l]? = some rb ∧ GSt w n₀ l D g6 rr (ps ++ [(f, V)]) ((w'.setCell ⟨g6, 0, none⟩ v').putObj l rr) ∧ Below n₀ Wb ((w'.setCell ⟨g6, 0, none⟩ v').putObj l rr) := by
  have hlt : ∀ {X : World} {b o}, X.heap[b]? = some o → b < X.heap.size := fun e => (Array.getElem?_eq_some_iff.1 e).1
  have hrow : ∀ b cs t z, Wb.heap[b]? = some (.cells cs t z) → t ≠ 40 → v.ownBlock ≠ some b := fun b cs t z hb ht e => by
    rcases hr.2 with ⟨e1, _⟩ | ⟨g, cap, cur, e1, _, hh, _⟩
    · rw [e1] at e; cases e
    · rw [e1] at e
      cases e
      rw [hh] at hb
      cases hb
      exact ht rfl
  have hrow2 : ∀ b o2, Wb.heap[b]? = some o2 → (∀ cs t z, o2 ≠ .cells cs t z) → v.ownBlock ≠ some b := fun b o2 hb hno e => by
    rcases hr.2 with ⟨e1, _⟩ | ⟨g, cap, cur, e1, _, hh, _⟩
    · rw [e1] at e; cases e
    · rw [e1] at e
      cases e
      rw [hh] at hb
      cases hb
      exact hno _ _ _ rfl
  have hl6 : l ≠ g6 := fun e => by
    have := h.rcd
    rw [e, hv] at this
    cases this
    exact hnc _ _ _ rfl
  have k1 : Kept (fun b => v.ownBlock ≠ some b) Wb w' := ((Kept.refl _ Wb).alloc o).grown hg fun g e => by rw [e]; simp
  have hc6 : Cells w' g6 42 [v] := hv.move (k1.block _ hv.lt (hrow _ _ _ _ hv (by decide)))
  have hl' : w'.heap[l]? = some rb := (k1.block _ (hlt h.rcd) (hrow2 _ _ h.rcd hnc)).trans h.rcd
  have hl2 : (w'.setCell ⟨g6, 0, none⟩ v').heap[l]? = some rb := (Below.heap_setCell _ _ _ _ hl6).trans hl'
  have k2 : Kept (fun b => v.ownBlock ≠ some b ∧ b ≠ g6 ∧ b ≠ l) Wb ((w'.setCell ⟨g6, 0, none⟩ v').putObj l rr) :=
    ((k1.mono fun b _ h => h.1).setCell (p := ⟨g6, 0, none⟩) (fun h => h.2.1 rfl) v').putObj (fun h => h.2.2 rfl) rr
  have hcl : ∀ {b t cs}, Cells Wb b t cs → b ≠ l := fun hb e => by
    have := h.rcd
    rw [← e, hb] at this
    cases this
    exact hnc _ _ _ rfl
  have hn42 : ∀ {b t cs}, Cells Wb b t cs → t ≠ 42 → b ≠ g6 := fun hb ht e => by
    subst e
    exact ht (hb.type hv).1
  have hbel : Below n₀ Wb ((w'.setCell ⟨g6, 0, none⟩ v').putObj l rr) := ⟨k2.os, k2.tape, k2.output, k2.size, fun b hb => by
    have hbs : b < Wb.heap.size ∨ Wb.heap.size ≤ b := Nat.lt_or_ge _ _
    rcases hbs with hbs | hbs
    · refine k2.block b hbs ⟨fun e => ?_, by omega, by omega⟩
      have := (World.ownsRow.lt hr b e).1
      omega
    · exfalso
      have := hv.lt
      omega⟩
  refine ⟨hc6, hl2, ⟨World.putObj_heap_same (hlt hl2), ?_, ⟨v', ?_, ?_⟩, ?_, ?_⟩, hbel⟩
  · refine (k2.block _ (hlt h.dfr) ⟨hrow2 _ _ h.dfr (fun cs t z e => by cases e), fun e => ?_, hDl⟩).trans h.dfr
    have := h.dfr
    rw [e, hv] at this
    cases this
  · exact (hc6.set 0 v').move (World.putObj_heap_other (fun e => hl6 e.symm))
  · have hl1 : (ps ++ [(f, V)]).length = ps.length + 1 := by simp
    have hc1 : cellsF (ps ++ [(f, V)]) = cellsF ps ++ cellF (f, V) := by rw [cellsF_append]; simp [cellsF]
    rw [hl1, hc1]
    refine ⟨ho.1, ?_⟩
    rcases ho.2 with q | ⟨g, cap, cur, e1, hb, hh, r⟩
    · exact .inl q
    · refine .inr ⟨g, cap, cur, e1, hb, ?_, r⟩
      have h6 : g ≠ g6 := fun e => by
        subst e
        have := hc6
        unfold Cells at this
        rw [hh] at this
        cases this
      have hL : g ≠ l := fun e => by
        subst e
        rw [hl'] at hh
        cases hh
        exact hnc _ _ _ rfl
      exact ((World.putObj_heap_other hL).trans (Below.heap_setCell _ _ _ _ h6)).trans hh
  · have hU : ∀ {V2 x}, Own Wb n₀ V2 x → Own ((w'.setCell ⟨g6, 0, none⟩ v').putObj l rr) n₀ V2 x := fun hO => hO.move fun g hgv => by
      rcases hO.2 with ⟨e, _⟩ | ⟨g', cap, cur, e, _, hgg, _⟩
      · rw [e] at hgv; cases hgv
      · rw [e] at hgv
        cases hgv
        have hcU : Cells Wb g' 5 cur.toList := by unfold Cells; simpa using hgg
        exact k2.block _ (hlt hgg) ⟨hrow _ _ _ _ hgg (by decide), hn42 hcU (by decide), hcl hcU⟩
    intro p hp
    rcases List.mem_append.1 hp with hp | hp
    · exact ⟨hU (h.vs p hp).1, (h.vs p hp).2⟩
    · have : p = (f, V) := by simpa using hp
      subst this
      exact ⟨hU hV, hs⟩
  · exact h.bel.trans (hbel.mono hnw)
theorem GSt.after {w X : World} {n₀ l D g6 : Nat} {rc ro : Obj} {ps : List (Fc × Value)} (h : GSt w n₀ l D g6 rc ps X) (hl : D ≠ l) (hw : w.heap.size ≤ l) (hnc : ∀ cs t z, rc ≠ .cells cs t z) : GSt w n₀ l D g6 ro ps (X.putObj l ro) := by
  have hk : Kept (fun b => b ≠ l) X (X.putObj l ro) := (Kept.refl _ X).putObj (fun h => h rfl) _
  have hcl : ∀ b cs t z, X.heap[b]? = some (.cells cs t z) → b ≠ l := fun b cs t z hb e => by
    rw [e, h.rcd] at hb
    exact hnc _ _ _ (Option.some.inj hb)
  obtain ⟨v, hv, _⟩ := h.row
  exact h.kept hk (World.putObj_heap_same (Array.getElem?_eq_some_iff.1 h.rcd).1) hl (hcl _ _ _ _ hv) (fun b cs t z hb _ => hcl _ _ _ _ hb) (fun b hb => by omega)
/-- behind the mark -/
theorem GSt.mark {w X : World} {n₀ l D g6 : Nat} {rc : Obj} {ps : List (Fc × Value)} {v : Value} (h : GSt w n₀ l D g6 rc ps X) (hv : X.ownsRow n₀ 40 3 v ps.length (cellsF ps)) (hD : w.heap.size ≤ D) (hn : w.heap.size ≤ n₀) :
    RowO (X.putObj D (.deferred none)) w.heap.size v (ps.map Prod.fst) ∧ Below w.heap.size w (X.putObj D (.deferred none)) := by
  have hne : ∀ b cs t z, X.heap[b]? = some (.cells cs t z) → b ≠ D := fun b cs t z q e => by rw [e, h.dfr] at q; cases q
  refine ⟨⟨ps, rfl, ⟨hv.1, ?_⟩, fun p hp => ⟨((h.vs p hp).1.move fun g hg => World.putObj_heap_other ?_).wide hn, (h.vs p hp).2⟩⟩, h.bel.grown (grownBy_putObj' _ _ _) h.bel.size (fun g e => by cases e; exact hD)⟩
  · rcases hv.2 with q | ⟨g, cap, cur, e1, hg, hh, r⟩
    · exact .inl q
    · exact .inr ⟨g, cap, cur, e1, Nat.le_trans hn hg, (World.putObj_heap_other (hne _ _ _ _ hh)).trans hh, r⟩
  · rcases (h.vs p hp).1.2 with ⟨e1, _⟩ | ⟨g', cap, cur, e1, _, hgg, _⟩
    · rw [e1] at hg; cases hg
    · rw [e1] at hg
      cases hg
      exact hne _ _ _ _ hgg
section
set_option maxRecDepth 100000
set_option maxHeartbeats 8000000
theorem over_any (A : Option Addr) (n c : Nat) (w : World) : Calls Tryd.prog 78 #[.slice A n c] w fun e w' => e = .returned (.func (.func 109) #[] #[.pointer (some ⟨w.heap.size, 0, none⟩)]) ∧ w' = w.alloc (.cells #[.slice A n c] 42) := by
  go_enter Tryd.func78, Tryd.ntmps78
  go_wp2_with fail
  go_ret
  exact ⟨rfl, rfl⟩
theorem tall_any (g : Nat) (A : Option Addr) (n c : Nat) (w : World) (hc : Cells w g 131 [.slice A n c]) : Calls Tryd.prog 34 #[.pointer (some ⟨g, 0, none⟩)] w fun e w' => e = .returned (.func (.func 109) #[] #[.pointer (some ⟨w.heap.size, 0, none⟩)]) ∧ w' = w.alloc (.cells #[.slice A n c] 42) := by
  have c0 := hc.cell (i := 0) rfl
  have HO := Lib.hid (over_any A n c w)
  clear hc
  go_enter Tryd.func34, Tryd.ntmps34
  go_wp2_with fail
  refine HO.out.mono ?_
  rintro e w' ⟨rfl, rfl⟩
  go_wp2_with fail
  go_ret
  exact ⟨rfl, rfl⟩
end
end Go.Proofs.YtghcfmkmndldoaaDoor

/-
  The law's all: a range over All gathers the facts. (Written by wip/tools/genfa52.py.)
-/
namespace Go.Proofs.YtghcfmkmndldoaaDoor
open Go.RowKit Go.Sort Go.Lib Go.Shelf

attribute [local go_sem] Oper.semAt_some
/-- what All and Range tell: the iterator over facts that lie in a box -/
def SeqP (n₀ : Nat) (fs : List Fc) (W : World) (e : Ending) (w' : World) : Prop :=
  ∃ (Bn : Nat) (A : Option Addr) (c : Nat), e = .returned (.func (.func 109) #[] #[.pointer (some ⟨Bn, 0, none⟩)]) ∧ Cells w' Bn 42 [.slice A fs.length c] ∧ RF w' n₀ A fs ∧ Below W.heap.size W w'
section
set_option maxRecDepth 100000
set_option maxHeartbeats 8000000
theorem all_run (fs : List Fc) (w : World) (g : Nat) (hl : fs.length ≤ 1099511627776) (hx : ∀ f ∈ fs, f.2.2.length ≤ 1099511627776)
    (hC : ∀ W, Below w.heap.size w W → Calls Tryd.prog 34 #[.pointer (some ⟨g, 0, none⟩)] W fun e w' => SeqP w.heap.size fs W e w') :
    Calls Tryd.prog 75 #[.pointer (some ⟨g, 0, none⟩)] w fun e w' => ∃ v, e = .returned v ∧ RowO w' w.heap.size v fs ∧ Below w.heap.size w w' := by
  have HC := Lib.hid hC
  have Hl := Lib.hid hl
  have Hx := Lib.hid hx
  clear hC hl hx
  refine (callsIn_wide (n := 5)).1 ?_
  refine callsIn_of_wp_marks Tryd.func75 rfl trivial ?_ rfl
  simp only [Tryd.ntmps75, List.size_toArray, List.length_cons, List.length_nil, Nat.reduceAdd, Nat.reduceSub, Array.replicate_succ, Array.replicate_zero, List.push_toArray, List.append_toArray, List.nil_append, List.cons_append]
  gi_wp2
  have hbW : Below w.heap.size w (w.alloc (.cells #[.slice none 0 0] 42)) := (Below.refl _ _).alloc (Nat.le_refl _) _
  have h6 := Cells.new w #[.slice none 0 0] 42
  refine ⟨trivial, (callsIn_wide.2 (HC.out _ hbW)).mono ?_⟩
  rintro e w3 ⟨Bn, A, c, rfl, hB3, hr3, hb3⟩
  have H3 : Hid (Below w.heap.size w w3 ∧ Cells w3 w.heap.size 42 [.slice none 0 0] ∧ Cells w3 Bn 42 [.slice A fs.length c] ∧ RF w3 w.heap.size A fs ∧ w.heap.size < w3.heap.size) := ⟨hbW.trans (hb3.mono (by simp)), h6.move (hb3.block _ h6.lt), hB3, hr3, Nat.lt_of_lt_of_le h6.lt hb3.size⟩
  clear hbW h6 hB3 hr3 hb3 HC
  gi_wp2
  refine range_wp rfl rfl rfl trivial (enters_of Tryd.func109 (by kernel_rfl) rfl) ?_
  intro fn hfn
  generalize hrc : lrec fn _ _ _ _ w3.heap.size = rc
  have hcell : ∀ st pe (cs : Array Value) t z, rc st pe ≠ .cells cs t z := fun st pe cs t z e => by rw [← hrc] at e; cases e
  have hs4 : (w3.alloc (.deferred (some []))).heap.size = w3.heap.size + 1 := by simp
  have Hb3 : Hid (Below w.heap.size w ((w3.alloc (.deferred (some []))).alloc (rc .ready none))) := (H3.out.1.alloc H3.out.1.size _).alloc (by rw [hs4]; have := H3.out.1.size; omega) _
  have Hw3 : Hid (Below w3.heap.size w3 ((w3.alloc (.deferred (some []))).alloc (rc .ready none))) := ((Below.refl _ _).alloc (Nat.le_refl _) _).alloc (by rw [hs4]; omega) _
  refine (over1_any 4 (w3.heap.size + 1) w.heap.size Bn A c fs
    (fun ps X => w.heap.size ≤ X.heap.size ∧ GSt w w.heap.size (w3.heap.size + 1) w3.heap.size w.heap.size (rc .ready none) ps X)
    ?hJ ?hY _ ?hBn ?hr ?hn0 Hl.out Hx.out ?h0).mono ?fin
  case hJ =>
    rintro ps X X' ⟨hX, h⟩ hb
    refine ⟨Nat.le_trans hX hb.size, ?_⟩
    have hk : Kept (fun _ => True) X X' := ⟨hb.os, hb.tape, hb.output, hb.size, fun b hlt _ => hb.block b hlt⟩
    exact h.kept hk ((hb.block _ (Array.getElem?_eq_some_iff.1 h.rcd).1).trans h.rcd) trivial trivial (fun _ _ _ _ _ _ => trivial) (fun _ _ => trivial)
  case hY =>
    rintro ps ⟨fk, fsq, fv⟩ V W1 ⟨hX, h⟩ hlen ho hs hn1
    obtain ⟨A3, c3, rfl, _⟩ := ho.rb
    dsimp only at ho hs ⊢
    have hl := h.rcd
    rw [← hrc] at hl
    refine round_yields trivial rfl hl ?_
    simp only [hrc]
    unfold fcV
    have HF : Hid (GSt w w.heap.size (w3.heap.size + 1) w3.heap.size w.heap.size (rc .ready none) ps W1 ∧ w.heap.size ≤ W1.heap.size ∧ ps.length < fs.length ∧ Own W1 w.heap.size (.slice A3 fv.length c3) fv ∧ fsq < two64) := ⟨h, hX, hlen, ho, hs⟩
    clear hl h hX hlen ho hs hn1
    have hbusy : GSt w w.heap.size (w3.heap.size + 1) w3.heap.size w.heap.size (rc .busy none) ps ((W1.alloc (.cells #[.string fk, .int .u64 (fsq : Int), .slice A3 fv.length c3] 40)).putObj (w3.heap.size + 1) (rc .busy none)) ∧ Kept (fun b => b ≠ w3.heap.size + 1) W1 ((W1.alloc (.cells #[.string fk, .int .u64 (fsq : Int), .slice A3 fv.length c3] 40)).putObj (w3.heap.size + 1) (rc .busy none)) := by
      have hlt := (Array.getElem?_eq_some_iff.1 HF.out.1.rcd).1
      have hk : Kept (fun b => b ≠ w3.heap.size + 1) W1 ((W1.alloc (.cells #[.string fk, .int .u64 (fsq : Int), .slice A3 fv.length c3] 40)).putObj (w3.heap.size + 1) (rc .busy none)) := ((Kept.refl _ W1).alloc _).putObj (fun h => h rfl) _
      have hcl : ∀ b cs t z, W1.heap[b]? = some (.cells cs t z) → b ≠ w3.heap.size + 1 := fun b cs t z hb e => by
        rw [e, HF.out.1.rcd] at hb
        exact hcell _ _ _ _ _ (Option.some.inj hb)
      obtain ⟨v, hv, _⟩ := HF.out.1.row
      refine ⟨HF.out.1.kept hk (World.putObj_heap_same (by simp; omega)) (by omega) (hcl _ _ _ _ hv) (fun b cs t z hb _ => hcl _ _ _ _ hb) (fun b hb => by have := H3.out.1.size; omega), hk⟩
    have hrd : Hid ((W1.alloc (.cells #[.string fk, .int .u64 (fsq : Int), .slice A3 fv.length c3] 40)).heap[w3.heap.size + 1]? = some (rc .ready none)) := (Below.heap_alloc _ _ _ (Array.getElem?_eq_some_iff.1 HF.out.1.rcd).1).trans HF.out.1.rcd
    have hbx : Cells ((W1.alloc (.cells #[.string fk, .int .u64 (fsq : Int), .slice A3 fv.length c3] 40)).putObj (w3.heap.size + 1) (rc .busy none)) W1.heap.size 40 [.string fk, .int .u64 (fsq : Int), .slice A3 fv.length c3] :=
      (Cells.new W1 _ _).move (World.putObj_heap_other (fun e => by have := (Array.getElem?_eq_some_iff.1 HF.out.1.rcd).1; omega))
    obtain ⟨hbz, hkk⟩ := hbusy
    gi_wp2
    refine ⟨hrd.out, ?_⟩
    have hbelW : Below w.heap.size W1 ((W1.alloc (.cells #[.string fk, .int .u64 (fsq : Int), .slice A3 fv.length c3] 40)).putObj (w3.heap.size + 1) (rc .busy none)) := hkk.to_below (fun b hb => by have := H3.out.1.size; omega) HF.out.2.1
    have hoW : Own ((W1.alloc (.cells #[.string fk, .int .u64 (fsq : Int), .slice A3 fv.length c3] 40)).putObj (w3.heap.size + 1) (rc .busy none)) w.heap.size (.slice A3 fv.length c3) fv := HF.out.2.2.2.1.move fun g hg => hkk.block g (HF.out.2.2.2.1.lt g hg).2 (fun e => by
      rcases HF.out.2.2.2.1.2 with ⟨e1, _⟩ | ⟨g', cap, cur, e1, _, hgg, _⟩
      · rw [e1] at hg; cases hg
      · rw [e1] at hg
        cases hg
        have e' : g' = w3.heap.size + 1 := e
        rw [e', HF.out.1.rcd] at hgg
        exact hcell _ _ _ _ _ (Option.some.inj hgg))
    generalize (W1.alloc (.cells #[.string fk, .int .u64 (fsq : Int), .slice A3 fv.length c3] 40)).putObj (w3.heap.size + 1) (rc .busy none) = Wb at *
    obtain ⟨v, hv, hrow⟩ := hbz.row
    obtain ⟨Av, cv, rfl, _⟩ := ownF_shape hrow
    have c6 := hv.cell (i := 0) rfl
    have x0 := hbx.cell (i := 0) rfl
    have x1 := hbx.cell (i := 1) rfl
    have x2 := hbx.cell (i := 2) rfl
    obtain ⟨i0, hi0, hz0, hz1, hz2⟩ := info_parts info_fact
    have HS : Hid (∀ v' w', w'.ownsRow w.heap.size 40 3 v' (ps.length + 1) (cellsF ps ++ [.string fk, .int .u64 (fsq : Int), .slice A3 fv.length c3]) → (Wb.alloc (.cells #[.string fk, .int .u64 (fsq : Int), .slice A3 fv.length c3] 40)).grownBy w' (Value.slice Av ps.length cv).ownBlock → _) := fun v' w' q1 q2 =>
      GSt.step (rr := rc .ready none) (.cells #[.string fk, .int .u64 (fsq : Int), .slice A3 fv.length c3] 40) hbz hv hrow (f := (fk, fsq, fv)) (V := .slice A3 fv.length c3) hoW HF.out.2.2.2.2 q1 q2 (Nat.le_refl _) (Nat.le_refl _) (by have := H3.out.1.size; omega) (by omega) (hcell _ _)
    have Hlen : Hid (ps.length + 1 ≤ 1099511627776) := by show _ ≤ _; have := HF.out.2.2.1; have := Hl.out; omega
    have Hrow := Lib.hid hrow
    have HW : Hid (w.heap.size ≤ Wb.heap.size ∧ Below w.heap.size W1 Wb ∧ w.heap.size ≤ W1.heap.size) := ⟨Nat.le_trans HF.out.2.1 hbelW.size, hbelW, HF.out.2.1⟩
    clear hbz hkk hrd hbelW hoW hv hrow hbx HF
    gi_wp2_with (gi_at_builtin; refine wpListIn_append_own _ rfl _ _ 42 rfl w.heap.size 40 i0 _ 3 48 Tryd.underlying42 hi0 hz0 hz1 hz2 rfl (by omega) _ ps.length (cellsF ps) rfl (World.ownsRow.alloc Hrow.out _) ⟨Wb.heap.size, 0, none⟩ 1 1 [.string fk, .int .u64 (fsq : Int), .slice A3 fv.length c3] rfl rfl (fun j u hj => by rw [add_flat, Nat.zero_add]; exact (Cells.new Wb _ _).cell hj) (by intro u hu; simp only [List.mem_cons, List.not_mem_nil, or_false] at hu; rcases hu with rfl | rfl | rfl <;> rfl) (by have := Hlen.out; simp only [maxLen]; omega) (by have := Hlen.out; omega) (by have := HW.out.1; simp; omega) ?_; intro v' w4 q1 q2 _; obtain ⟨A4, c4, rfl, _⟩ := ownF_shape q1; have hst := HS.out _ _ q1 q2; have d6 := hst.1.cell (i := 0) rfl; have z6 := hst.1.frozen 0; have H5 := Lib.hid hst.2; clear hst q1 q2)
    exact ⟨H5.out.1, rfl, ⟨Nat.le_trans HW.out.2.2 (HW.out.2.1.trans H5.out.2.2).size, H5.out.2.1⟩, HW.out.2.1.trans H5.out.2.2⟩
  case hBn => exact ((H3.out.2.2.1.alloc _).alloc _).cell rfl
  case hr => exact H3.out.2.2.2.1.below ⟨Hw3.out.os, Hw3.out.tape, Hw3.out.output, Hw3.out.size, fun b hb => Hw3.out.block b (Nat.lt_of_lt_of_le hb H3.out.1.size)⟩
  case hn0 => exact Hb3.out.size
  case h0 =>
    refine ⟨Hb3.out.size, ⟨?_, ?_, ⟨_, (H3.out.2.1.alloc _).alloc _, World.ownsRow_nil _ _ _ _⟩, (fun p hp => by simp at hp), Hb3.out⟩⟩
    · have := heap_alloc_new (w3.alloc (.deferred (some []))) (rc .ready none)
      rw [hs4] at this
      exact this
    · exact (Below.heap_alloc _ _ _ (by rw [hs4]; omega)).trans (heap_alloc_new w3 _)
  case fin =>
    rintro e W2 ⟨hv, ps, hps, hsz, hst⟩
    refine ⟨hv, .inl ⟨hst.rcd, ?_⟩⟩
    have hF := hst.after (ro := rc .exhausted none) (by omega) (by have := H3.out.1.size; omega) (hcell _ _)
    generalize W2.putObj (w3.heap.size + 1) (rc .exhausted none) = X at hF ⊢
    obtain ⟨v, hv6, hrow⟩ := hF.row
    obtain ⟨Av, cv, rfl, hcv, _⟩ := ownF_shape hrow
    have c6 := hv6.cell (i := 0) rfl
    have hm := hF.mark hrow H3.out.1.size (Nat.le_refl _)
    have hd := hF.dfr
    rw [hps] at hm
    clear hst hv6 hrow hF
    gi_wp2
    refine ⟨by simp, .inl ⟨_, _, rfl, run_takeDeferred hd, ?_⟩⟩
    exact ⟨.slice Av ps.length cv, by simp [results, Tryd.results75, go_sem], ⟨_, rfl, hm.1, hm.2⟩⟩
end
end Go.Proofs.YtghcfmkmndldoaaDoor

/-
  The law's stretch: a range over Range gathers the facts. (Written by wip/tools/genfa52.py.)
-/
namespace Go.Proofs.YtghcfmkmndldoaaDoor
open Go.RowKit Go.Sort Go.Lib Go.Shelf

attribute [local go_sem] Oper.semAt_some
section
set_option maxRecDepth 100000
set_option maxHeartbeats 8000000
theorem stretch_run (fs : List Fc) (w : World) (g : Nat) (lo hi : ByteArray) (hl : fs.length ≤ 1099511627776) (hx : ∀ f ∈ fs, f.2.2.length ≤ 1099511627776)
    (hC : ∀ W, Below w.heap.size w W → Calls Tryd.prog 79 #[.pointer (some ⟨g, 0, none⟩), .string lo, .string hi] W fun e w' => SeqP w.heap.size fs W e w') :
    Calls Tryd.prog 36 #[.pointer (some ⟨g, 0, none⟩), .string lo, .string hi] w fun e w' => ∃ v, e = .returned v ∧ RowO w' w.heap.size v fs ∧ Below w.heap.size w w' := by
  have HC := Lib.hid hC
  have Hl := Lib.hid hl
  have Hx := Lib.hid hx
  clear hC hl hx
  refine (callsIn_wide (n := 5)).1 ?_
  refine callsIn_of_wp_marks Tryd.func36 rfl trivial ?_ rfl
  simp only [Tryd.ntmps36, List.size_toArray, List.length_cons, List.length_nil, Nat.reduceAdd, Nat.reduceSub, Array.replicate_succ, Array.replicate_zero, List.push_toArray, List.append_toArray, List.nil_append, List.cons_append]
  gi_wp2
  have hbW : Below w.heap.size w (w.alloc (.cells #[.slice none 0 0] 42)) := (Below.refl _ _).alloc (Nat.le_refl _) _
  have h6 := Cells.new w #[.slice none 0 0] 42
  refine ⟨trivial, (callsIn_wide.2 (HC.out _ hbW)).mono ?_⟩
  rintro e w3 ⟨Bn, A, c, rfl, hB3, hr3, hb3⟩
  have H3 : Hid (Below w.heap.size w w3 ∧ Cells w3 w.heap.size 42 [.slice none 0 0] ∧ Cells w3 Bn 42 [.slice A fs.length c] ∧ RF w3 w.heap.size A fs ∧ w.heap.size < w3.heap.size) := ⟨hbW.trans (hb3.mono (by simp)), h6.move (hb3.block _ h6.lt), hB3, hr3, Nat.lt_of_lt_of_le h6.lt hb3.size⟩
  clear hbW h6 hB3 hr3 hb3 HC
  gi_wp2
  refine range_wp rfl rfl rfl trivial (enters_of Tryd.func109 (by kernel_rfl) rfl) ?_
  intro fn hfn
  generalize hrc : lrec fn _ _ _ _ w3.heap.size = rc
  have hcell : ∀ st pe (cs : Array Value) t z, rc st pe ≠ .cells cs t z := fun st pe cs t z e => by rw [← hrc] at e; cases e
  have hs4 : (w3.alloc (.deferred (some []))).heap.size = w3.heap.size + 1 := by simp
  have Hb3 : Hid (Below w.heap.size w ((w3.alloc (.deferred (some []))).alloc (rc .ready none))) := (H3.out.1.alloc H3.out.1.size _).alloc (by rw [hs4]; have := H3.out.1.size; omega) _
  have Hw3 : Hid (Below w3.heap.size w3 ((w3.alloc (.deferred (some []))).alloc (rc .ready none))) := ((Below.refl _ _).alloc (Nat.le_refl _) _).alloc (by rw [hs4]; omega) _
  refine (over1_any 4 (w3.heap.size + 1) w.heap.size Bn A c fs
    (fun ps X => w.heap.size ≤ X.heap.size ∧ GSt w w.heap.size (w3.heap.size + 1) w3.heap.size w.heap.size (rc .ready none) ps X)
    ?hJ ?hY _ ?hBn ?hr ?hn0 Hl.out Hx.out ?h0).mono ?fin
  case hJ =>
    rintro ps X X' ⟨hX, h⟩ hb
    refine ⟨Nat.le_trans hX hb.size, ?_⟩
    have hk : Kept (fun _ => True) X X' := ⟨hb.os, hb.tape, hb.output, hb.size, fun b hlt _ => hb.block b hlt⟩
    exact h.kept hk ((hb.block _ (Array.getElem?_eq_some_iff.1 h.rcd).1).trans h.rcd) trivial trivial (fun _ _ _ _ _ _ => trivial) (fun _ _ => trivial)
  case hY =>
    rintro ps ⟨fk, fsq, fv⟩ V W1 ⟨hX, h⟩ hlen ho hs hn1
    obtain ⟨A3, c3, rfl, _⟩ := ho.rb
    dsimp only at ho hs ⊢
    have hl := h.rcd
    rw [← hrc] at hl
    refine round_yields trivial rfl hl ?_
    simp only [hrc]
    unfold fcV
    have HF : Hid (GSt w w.heap.size (w3.heap.size + 1) w3.heap.size w.heap.size (rc .ready none) ps W1 ∧ w.heap.size ≤ W1.heap.size ∧ ps.length < fs.length ∧ Own W1 w.heap.size (.slice A3 fv.length c3) fv ∧ fsq < two64) := ⟨h, hX, hlen, ho, hs⟩
    clear hl h hX hlen ho hs hn1
    have hbusy : GSt w w.heap.size (w3.heap.size + 1) w3.heap.size w.heap.size (rc .busy none) ps ((W1.alloc (.cells #[.string fk, .int .u64 (fsq : Int), .slice A3 fv.length c3] 40)).putObj (w3.heap.size + 1) (rc .busy none)) ∧ Kept (fun b => b ≠ w3.heap.size + 1) W1 ((W1.alloc (.cells #[.string fk, .int .u64 (fsq : Int), .slice A3 fv.length c3] 40)).putObj (w3.heap.size + 1) (rc .busy none)) := by
      have hlt := (Array.getElem?_eq_some_iff.1 HF.out.1.rcd).1
      have hk : Kept (fun b => b ≠ w3.heap.size + 1) W1 ((W1.alloc (.cells #[.string fk, .int .u64 (fsq : Int), .slice A3 fv.length c3] 40)).putObj (w3.heap.size + 1) (rc .busy none)) := ((Kept.refl _ W1).alloc _).putObj (fun h => h rfl) _
      have hcl : ∀ b cs t z, W1.heap[b]? = some (.cells cs t z) → b ≠ w3.heap.size + 1 := fun b cs t z hb e => by
        rw [e, HF.out.1.rcd] at hb
        exact hcell _ _ _ _ _ (Option.some.inj hb)
      obtain ⟨v, hv, _⟩ := HF.out.1.row
      refine ⟨HF.out.1.kept hk (World.putObj_heap_same (by simp; omega)) (by omega) (hcl _ _ _ _ hv) (fun b cs t z hb _ => hcl _ _ _ _ hb) (fun b hb => by have := H3.out.1.size; omega), hk⟩
    have hrd : Hid ((W1.alloc (.cells #[.string fk, .int .u64 (fsq : Int), .slice A3 fv.length c3] 40)).heap[w3.heap.size + 1]? = some (rc .ready none)) := (Below.heap_alloc _ _ _ (Array.getElem?_eq_some_iff.1 HF.out.1.rcd).1).trans HF.out.1.rcd
    have hbx : Cells ((W1.alloc (.cells #[.string fk, .int .u64 (fsq : Int), .slice A3 fv.length c3] 40)).putObj (w3.heap.size + 1) (rc .busy none)) W1.heap.size 40 [.string fk, .int .u64 (fsq : Int), .slice A3 fv.length c3] :=
      (Cells.new W1 _ _).move (World.putObj_heap_other (fun e => by have := (Array.getElem?_eq_some_iff.1 HF.out.1.rcd).1; omega))
    obtain ⟨hbz, hkk⟩ := hbusy
    gi_wp2
    refine ⟨hrd.out, ?_⟩
    have hbelW : Below w.heap.size W1 ((W1.alloc (.cells #[.string fk, .int .u64 (fsq : Int), .slice A3 fv.length c3] 40)).putObj (w3.heap.size + 1) (rc .busy none)) := hkk.to_below (fun b hb => by have := H3.out.1.size; omega) HF.out.2.1
    have hoW : Own ((W1.alloc (.cells #[.string fk, .int .u64 (fsq : Int), .slice A3 fv.length c3] 40)).putObj (w3.heap.size + 1) (rc .busy none)) w.heap.size (.slice A3 fv.length c3) fv := HF.out.2.2.2.1.move fun g hg => hkk.block g (HF.out.2.2.2.1.lt g hg).2 (fun e => by
      rcases HF.out.2.2.2.1.2 with ⟨e1, _⟩ | ⟨g', cap, cur, e1, _, hgg, _⟩
      · rw [e1] at hg; cases hg
      · rw [e1] at hg
        cases hg
        have e' : g' = w3.heap.size + 1 := e
        rw [e', HF.out.1.rcd] at hgg
        exact hcell _ _ _ _ _ (Option.some.inj hgg))
    generalize (W1.alloc (.cells #[.string fk, .int .u64 (fsq : Int), .slice A3 fv.length c3] 40)).putObj (w3.heap.size + 1) (rc .busy none) = Wb at *
    obtain ⟨v, hv, hrow⟩ := hbz.row
    obtain ⟨Av, cv, rfl, _⟩ := ownF_shape hrow
    have c6 := hv.cell (i := 0) rfl
    have x0 := hbx.cell (i := 0) rfl
    have x1 := hbx.cell (i := 1) rfl
    have x2 := hbx.cell (i := 2) rfl
    obtain ⟨i0, hi0, hz0, hz1, hz2⟩ := info_parts info_fact
    have HS : Hid (∀ v' w', w'.ownsRow w.heap.size 40 3 v' (ps.length + 1) (cellsF ps ++ [.string fk, .int .u64 (fsq : Int), .slice A3 fv.length c3]) → (Wb.alloc (.cells #[.string fk, .int .u64 (fsq : Int), .slice A3 fv.length c3] 40)).grownBy w' (Value.slice Av ps.length cv).ownBlock → _) := fun v' w' q1 q2 =>
      GSt.step (rr := rc .ready none) (.cells #[.string fk, .int .u64 (fsq : Int), .slice A3 fv.length c3] 40) hbz hv hrow (f := (fk, fsq, fv)) (V := .slice A3 fv.length c3) hoW HF.out.2.2.2.2 q1 q2 (Nat.le_refl _) (Nat.le_refl _) (by have := H3.out.1.size; omega) (by omega) (hcell _ _)
    have Hlen : Hid (ps.length + 1 ≤ 1099511627776) := by show _ ≤ _; have := HF.out.2.2.1; have := Hl.out; omega
    have Hrow := Lib.hid hrow
    have HW : Hid (w.heap.size ≤ Wb.heap.size ∧ Below w.heap.size W1 Wb ∧ w.heap.size ≤ W1.heap.size) := ⟨Nat.le_trans HF.out.2.1 hbelW.size, hbelW, HF.out.2.1⟩
    clear hbz hkk hrd hbelW hoW hv hrow hbx HF
    gi_wp2_with (gi_at_builtin; refine wpListIn_append_own _ rfl _ _ 42 rfl w.heap.size 40 i0 _ 3 48 Tryd.underlying42 hi0 hz0 hz1 hz2 rfl (by omega) _ ps.length (cellsF ps) rfl (World.ownsRow.alloc Hrow.out _) ⟨Wb.heap.size, 0, none⟩ 1 1 [.string fk, .int .u64 (fsq : Int), .slice A3 fv.length c3] rfl rfl (fun j u hj => by rw [add_flat, Nat.zero_add]; exact (Cells.new Wb _ _).cell hj) (by intro u hu; simp only [List.mem_cons, List.not_mem_nil, or_false] at hu; rcases hu with rfl | rfl | rfl <;> rfl) (by have := Hlen.out; simp only [maxLen]; omega) (by have := Hlen.out; omega) (by have := HW.out.1; simp; omega) ?_; intro v' w4 q1 q2 _; obtain ⟨A4, c4, rfl, _⟩ := ownF_shape q1; have hst := HS.out _ _ q1 q2; have d6 := hst.1.cell (i := 0) rfl; have z6 := hst.1.frozen 0; have H5 := Lib.hid hst.2; clear hst q1 q2)
    exact ⟨H5.out.1, rfl, ⟨Nat.le_trans HW.out.2.2 (HW.out.2.1.trans H5.out.2.2).size, H5.out.2.1⟩, HW.out.2.1.trans H5.out.2.2⟩
  case hBn => exact ((H3.out.2.2.1.alloc _).alloc _).cell rfl
  case hr => exact H3.out.2.2.2.1.below ⟨Hw3.out.os, Hw3.out.tape, Hw3.out.output, Hw3.out.size, fun b hb => Hw3.out.block b (Nat.lt_of_lt_of_le hb H3.out.1.size)⟩
  case hn0 => exact Hb3.out.size
  case h0 =>
    refine ⟨Hb3.out.size, ⟨?_, ?_, ⟨_, (H3.out.2.1.alloc _).alloc _, World.ownsRow_nil _ _ _ _⟩, (fun p hp => by simp at hp), Hb3.out⟩⟩
    · have := heap_alloc_new (w3.alloc (.deferred (some []))) (rc .ready none)
      rw [hs4] at this
      exact this
    · exact (Below.heap_alloc _ _ _ (by rw [hs4]; omega)).trans (heap_alloc_new w3 _)
  case fin =>
    rintro e W2 ⟨hv, ps, hps, hsz, hst⟩
    refine ⟨hv, .inl ⟨hst.rcd, ?_⟩⟩
    have hF := hst.after (ro := rc .exhausted none) (by omega) (by have := H3.out.1.size; omega) (hcell _ _)
    generalize W2.putObj (w3.heap.size + 1) (rc .exhausted none) = X at hF ⊢
    obtain ⟨v, hv6, hrow⟩ := hF.row
    obtain ⟨Av, cv, rfl, hcv, _⟩ := ownF_shape hrow
    have c6 := hv6.cell (i := 0) rfl
    have hm := hF.mark hrow H3.out.1.size (Nat.le_refl _)
    have hd := hF.dfr
    rw [hps] at hm
    clear hst hv6 hrow hF
    gi_wp2
    refine ⟨by simp, .inl ⟨_, _, rfl, run_takeDeferred hd, ?_⟩⟩
    exact ⟨.slice Av ps.length cv, by simp [results, Tryd.results36, go_sem], ⟨_, rfl, hm.1, hm.2⟩⟩
end
end Go.Proofs.YtghcfmkmndldoaaDoor
