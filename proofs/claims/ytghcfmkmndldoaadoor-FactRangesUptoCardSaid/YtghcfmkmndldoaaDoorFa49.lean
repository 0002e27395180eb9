/-
  FactBits: the walk.
-/
import Derived.Test.YtghcfmkmndldoaaDoorKFa46
import Derived.Test.YtghcfmkmndldoaaDoorKFa35
namespace Go.Proofs.YtghcfmkmndldoaaDoor
open Go.RowKit Go.Sort Go.Lib

theorem u8_flip (b k : Nat) (hb : b < 256) (hk : k < 8) : ∃ y : UInt8, bits .xor .u8 (b : Int) (2 ^ k % 256) = (y.toNat : Int) := by
  have hp : 2 ^ k < 256 := Nat.pow_lt_pow_right (a := 2) (n := 8) (by decide) hk
  have hp0 : 0 < 2 ^ k := Nat.pow_pos (by decide)
  have hx : b ^^^ 2 ^ k < 256 := Nat.xor_lt_two_pow (n := 8) hb hp
  have e : (UInt8.ofNat (b ^^^ 2 ^ k)).toNat = b ^^^ 2 ^ k := by rw [UInt8.toNat_ofNat']; exact Nat.mod_eq_of_lt hx
  refine ⟨UInt8.ofNat (b ^^^ 2 ^ k), ?_⟩
  rw [e, ← u8_xor_nat b (2 ^ k) hb hp]
  congr 1
  have : (2 : Int) ^ k = ((2 ^ k : Nat) : Int) := by simp
  rw [this]
  omega
theorem RB.setB {w : World} {B g : Nat} {l : List UInt8} (h : RB w B (some ⟨g, 0, none⟩) l) (j : Nat) (y : UInt8) : RB (w.setCell ⟨g, j, none⟩ (.int .u8 (y.toNat : Int))) B (some ⟨g, 0, none⟩) (l.set j y) := by
  intro k x hx
  have hk : k < l.length := by
    have := (List.getElem?_eq_some_iff.1 hx).1
    rwa [List.length_set] at this
  obtain ⟨ad, e, hb, hc⟩ := h k l[k] (List.getElem?_eq_getElem hk)
  obtain rfl : (⟨g, 0, none⟩ : Addr) = ad := Option.some.inj e
  have ek : (⟨g, 0, none⟩ : Addr).add k = ⟨g, k, none⟩ := by unfold Addr.add; split <;> simp_all
  refine ⟨_, rfl, hb, ?_⟩
  rw [ek] at hc ⊢
  rw [List.getElem?_set] at hx
  by_cases hjk : j = k
  · subst hjk
    rw [if_pos rfl, if_pos hk] at hx
    have := Option.some.inj hx
    subst this
    exact World.cell?_setCell_same _ _ _ hc
  · rw [if_neg hjk, List.getElem?_eq_getElem hk] at hx
    have := Option.some.inj hx
    subst this
    exact (World.cell?_setCell_other _ _ _ _ (by intro h; injection h with _ h2; exact hjk h2)).trans hc
theorem tabF_len (block : Nat) (fs : List Fc) (hs : SFit fs) : 12 ≤ (tabF block fs).length ∧ (tabF block fs).length ≤ 300000 := by
  have hb := hs.blk
  obtain ⟨h1, h2⟩ := bodyF_len block fs.length fs (Nat.le_refl _) (by omega)
  have h3 := hs.1
  have hft : ∀ a b, (footF a b).length = 12 := fun a b => by unfold footF; rw [List.length_append, List.length_append, leBytes_length, leBytes_length, leBytes_length]
  unfold tabF
  rw [List.length_append, List.length_append, hft, sumdF_length]
  omega
section
set_option maxRecDepth 100000
set_option maxHeartbeats 8000000
theorem bits11_any (A : Option Addr) (c : Nat) (fs : List Fc) (block at' : Int) (cut : Bool) (w : World) (ht : Tab w) (h : ArgF w A c fs) (ha : -9223372036854775808 ≤ at' ∧ at' ≤ 9223372036854775807) :
    Calls Tryd.prog 8 #[.slice A fs.length c, .int .i64 block, .int .i64 at', .bool cut] w fun e w' => e = .returned (.bool true) ∧ Below w.heap.size w w' := by
  have Ht := Lib.hid ht
  have HK := Lib.hid (known11_any w ht)
  obtain ⟨n, hn⟩ : ∃ n, n = fs.length := ⟨_, rfl⟩
  have HF := Lib.hid (argF_few2 h n hn 60)
  have Hfit := Lib.hid (fun q => argF_fit h (show (60 : Int) ≤ 400 by decide) q)
  have HR := Lib.hid (argF_right h n hn)
  obtain ⟨nb, hnb⟩ : ∃ nb, nb = (buildB fs block).length := ⟨_, rfl⟩
  have HB1 := Lib.hid (fun hs => argF_build h ht hs n hn block nb hnb)
  have Hlb : Hid (SFit fs → buildE fs block = 0 → 12 ≤ nb ∧ nb ≤ 300000) := fun hs he => by
    rw [hnb]
    unfold buildB
    rw [if_pos he]
    exact tabF_len _ fs hs
  rw [← hn]
  have Hnb := Lib.hid hnb
  have Ha := Lib.hid ha
  generalize buildE fs block = eb at *
  generalize buildB fs block = bb at *
  generalize (decide ((fs.length : Int) ≤ 60) && decide (sumF fs ≤ 131072)) = q at HF Hfit
  generalize rightF fs = r at HR
  clear hn hnb h ht ha
  go_enter Tryd.func8, Tryd.ntmps8
  go_wp2_with fail
  refine HK.out.mono ?_
  rintro e w1 ⟨rfl, hb1⟩
  have H1 := Lib.hid hb1
  clear hb1 HK
  go_wp2_with fail
  refine (HF.out w1 H1.out).mono ?_
  rintro e w2 ⟨rfl, hb2⟩
  have H2 := Lib.hid hb2
  clear hb2 HF H1
  cases q with
  | false =>
    go_wp2_with fail
    go_ret
    exact ⟨rfl, H2.out⟩
  | true =>
  have Hs := Lib.hid (Hfit.out rfl)
  go_wp2_with fail
  refine (HR.out w2 H2.out).mono ?_
  rintro e w3 ⟨rfl, hb3⟩
  have H3 := Lib.hid hb3
  clear hb3 HR H2 Hfit
  cases r with
  | false =>
    go_wp2_with fail
    go_ret
    exact ⟨rfl, H3.out⟩
  | true =>
  by_cases hk1 : block < 1
  · go_wp2_with fail
    go_ret
    exact ⟨rfl, H3.out⟩
  by_cases hk2 : block > 1048576
  · go_wp2_with fail
    go_ret
    exact ⟨rfl, H3.out⟩
  go_wp2_with fail
  refine (HB1.out Hs.out w3 H3.out).mono ?_
  rintro e w4 ⟨A4, c4, rfl, ho4, hb4⟩
  have H4 : Hid (Own w4 w3.heap.size (.slice A4 nb c4) bb ∧ Below w.heap.size w w4 ∧ w.heap.size ≤ w3.heap.size) := ⟨ho4, H3.out.trans (hb4.mono H3.out.size), H3.out.size⟩
  clear ho4 hb4 HB1 H3
  by_cases he : eb = 0
  · subst he
    obtain ⟨hl1, hl2⟩ := Hlb.out Hs.out rfl
    obtain ⟨g, cap, eg, hg1, hg2, hcap, hcell, hfroz⟩ := H4.out.1.form (by rw [← Hnb.out]; omega)
    injection eg with ea en ec
    subst ea
    subst ec
    clear en
    have Hcf : Hid ((∀ j, ∀ hj : j < bb.length, w4.cell? ⟨g, j, none⟩ = some (.int .u8 (bb[j].toNat : Int))) ∧ (∀ j, w4.frozen? ⟨g, j, none⟩ = false) ∧ nb ≤ c4 ∧ w3.heap.size ≤ g ∧ 12 ≤ nb ∧ nb ≤ 300000) := ⟨hcell, hfroz, by rw [Hnb.out]; exact hcap, hg1, hl1, hl2⟩
    obtain ⟨m, hm⟩ : ∃ m, m = 8 * nb := ⟨_, rfl⟩
    have hwm1 : IntKind.i64.wrap (8 * (nb : Int)) = (m : Int) := by rw [IntKind.wrap_i64]; omega
    have hwm2 : wrap64 (8 * (nb : Int)) = (m : Int) := by unfold wrap64; omega
    have hm0 : ¬ (m : Int) = 0 := by omega
    have hm1 : ¬ m = 0 := by omega
    obtain ⟨z, hz⟩ : ∃ z, at'.tmod (m : Int) = z := ⟨_, rfl⟩
    have hzb : -(m : Int) < z ∧ z < (m : Int) := by
      rw [← hz]
      exact ⟨by have := Int.lt_tmod_of_pos at' (show (0 : Int) < (m : Int) by omega); omega, Int.tmod_lt_of_pos _ (by omega)⟩
    have hwz1 : IntKind.i64.wrap z = z := by rw [IntKind.wrap_i64]; omega
    have hwz2 : wrap64 z = z := by unfold wrap64; omega
    have Hzb : Hid (-(m : Int) < z ∧ z < (m : Int) ∧ m = 8 * nb ∧ m ≤ 2400000) := ⟨hzb.1, hzb.2, hm, by omega⟩
    clear hl1 hl2 hg1 hg2 hcap hcell hfroz hm hzb Hlb
    go_upto_region 8 with fail
    go_cut [2] (fun v wx => w4 = wx ∧ v = .int .i64 z)
    case first => as_aux_lemma =>
      clear H4 Hcf Hs Hnb Hzb Ht Ha
      go_wp2_with fail
      go_meet
      exact ⟨rfl, rfl⟩
    case rest =>
      obtain ⟨rfl, rfl⟩ := hcut
      clear hz hm0 hm1 hwz1 hwz2
      go_upto_if 47 with fail
      go_cut [2] (fun v wx => w4 = wx ∧ ∃ q : Nat, v = .int .i64 (q : Int) ∧ q < m)
      case first => as_aux_lemma =>
        by_cases hz0 : z < 0
        · obtain ⟨q, hq⟩ : ∃ q : Nat, z + (m : Int) = (q : Int) := ⟨(z + (m : Int)).toNat, by have := Hzb.out; omega⟩
          have hwq1 : IntKind.i64.wrap (z + (m : Int)) = (q : Int) := by rw [IntKind.wrap_i64]; have := Hzb.out; omega
          have hwq2 : wrap64 (z + (m : Int)) = (q : Int) := by have := Hzb.out; unfold wrap64; omega
          have hqm : q < m := by omega
          have Hq := Lib.hid hqm
          clear H4 Hcf Hs Hnb Ht Ha hq Hzb hqm
          go_wp2_with fail
          go_meet
          exact ⟨rfl, q, rfl, Hq.out⟩
        · obtain ⟨q, rfl⟩ : ∃ q : Nat, z = (q : Int) := ⟨z.toNat, by omega⟩
          have hqm : q < m := by have := Hzb.out; omega
          have Hq := Lib.hid hqm
          clear H4 Hcf Hs Hnb Ht Ha Hzb hqm
          go_wp2_with fail
          go_meet
          exact ⟨rfl, q, rfl, Hq.out⟩
      case rest =>
        obtain ⟨rfl, q, rfl, hq⟩ := hcut
        clear hwm1 hwm2
        obtain ⟨j, hj⟩ : ∃ j : Nat, (q : Int) / 8 = (j : Int) := ⟨q / 8, by omega⟩
        obtain ⟨k, hk⟩ : ∃ k : Nat, (q : Int) % 8 = (k : Int) := ⟨q % 8, by omega⟩
        have hjn : j < nb := by have := Hzb.out; omega
        have hk8 : k < 8 := by omega
        have hj2 : (q : Int).tdiv 8 = (j : Int) := by rw [Int.tdiv_eq_ediv_of_nonneg (by omega)]; exact hj
        have hk2 : (q : Int).tmod 8 = (k : Int) := by rw [Int.tmod_eq_emod_of_nonneg (by omega)]; exact hk
        have hwj1 : IntKind.i64.wrap (j : Int) = (j : Int) := by rw [IntKind.wrap_i64]; have := Hcf.out; omega
        have hwj2 : wrap64 (j : Int) = (j : Int) := by have := Hcf.out; unfold wrap64; omega
        have hwk1 : IntKind.u64.wrap (k : Int) = (k : Int) := by rw [IntKind.wrap_u64]; omega
        clear hq Hzb
        go_upto_if 53 with fail
        go_cut [9] (fun v wx => ∃ A' n' c' l', v = .slice A' n' c' ∧ Hid (n' = l'.length ∧ n' ≤ c' ∧ n' ≤ 300000 ∧ RB wx wx.heap.size A' l' ∧ Below w.heap.size w wx))
        case first => as_aux_lemma =>
          have hlow := H4.out.1.rb
          obtain ⟨A9, c9, e9, _, hr9, _⟩ := hlow
          injection e9 with e91 e92 e93
          subst e91
          subst e93
          have Hr9 := Lib.hid hr9
          clear hr9 e92
          cases cut with
          | true =>
            have hjc : (j : Int) ≤ (c4 : Int) := by have := Hcf.out; omega
            have hjc0 : (0 : Int) ≤ (j : Int) := by omega
            clear hwk1 hk2 hk hk8
            go_wp2_with fail
            go_meet
            refine ⟨_, _, _, bb.take j, rfl, ⟨by rw [List.length_take, ← Hnb.out]; omega, by omega, by have := Hcf.out; omega, Hr9.out.take j, H4.out.2.1⟩⟩
          | false =>
            have hjb : j < bb.length := by rw [← Hnb.out]; exact hjn
            obtain ⟨x8, hx8, hc1⟩ : ∃ x8 : Nat, x8 < 256 ∧ w4.cell? ⟨g, j, none⟩ = some (.int .u8 (x8 : Int)) := ⟨_, UInt8.toNat_lt _, Hcf.out.1 j hjb⟩
            have hc2 := Hcf.out.2.1 j
            obtain ⟨y, hy⟩ := u8_flip x8 k hx8 hk8
            have Hy := Lib.hid hy
            have hjn' : (j : Int) < (nb : Int) := by omega
            have Hn2 : Hid (nb = (bb.set j y).length ∧ nb ≤ c4 ∧ nb ≤ 300000 ∧ RB (w4.setCell ⟨g, j, none⟩ (.int .u8 (y.toNat : Int))) (w4.setCell ⟨g, j, none⟩ (.int .u8 (y.toNat : Int))).heap.size (some ⟨g, 0, none⟩) (bb.set j y) ∧ Below w.heap.size w (w4.setCell ⟨g, j, none⟩ (.int .u8 (y.toNat : Int)))) :=
              ⟨by rw [List.length_set]; exact Hnb.out, Hcf.out.2.2.1, Hcf.out.2.2.2.2.2, by rw [World.size_setCell]; exact Hr9.out.setB j y, H4.out.2.1.setCell (p := ⟨g, j, none⟩) (Nat.le_trans H4.out.2.2 Hcf.out.2.2.2.1) _⟩
            clear hy Hr9 Hcf H4 Hs Hnb Ht Ha hjb hx8 hjn
            go_wp2_with fail
            rw [Hy.out]
            go_meet
            exact ⟨_, _, _, bb.set j y, rfl, Hn2⟩
        case rest =>
          obtain ⟨A5, n5, c5, l5, rfl, H5⟩ := hcut
          have HRO := ropen_any A5 c5 l5 wc H5.out.2.2.2.1 (by have := H5.out; omega) (by rw [← H5.out.1]; exact H5.out.2.1)
          rw [← H5.out.1] at HRO
          have HRo := Lib.hid HRO
          have HO : Hid (∀ W, Below wc.heap.size wc W → Calls Tryd.prog 30 #[.slice A5 n5 c5] W fun e w' => ∃ v, e = .returned (.tuple #[v, .int .i64 ((openF l5).2 : Nat)]) ∧ OpenP W w' v (openF l5) ∧ Below W.heap.size W w') := fun W hW => by
            have := open_any A5 c5 l5 W (Ht.out.below (H5.out.2.2.2.2.trans (hW.mono H5.out.2.2.2.2.size)) Ht.out.pos) ((H5.out.2.2.2.1.below hW).wide hW.size) (by have := H5.out; omega) (by rw [← H5.out.1]; exact H5.out.2.1)
            rw [← H5.out.1] at this
            exact this
          have Hb5 := Lib.hid H5.out.2.2.2.2
          generalize openF l5 = R at *
          clear HRO H5 H4 Hcf Hs Hnb Ha
          by_cases hR : R.2 = 0
          · have hRi : ((R.2 : Int) == 0) = true := by simp [hR]
            go_wp2_with fail
            refine HRo.out.mono ?_
            rintro e w6 ⟨A6, m6, c6, rfl, _, hb6⟩
            have H6 : Hid (Below w.heap.size w w6 ∧ Below wc.heap.size wc w6) := ⟨Hb5.out.trans (hb6.mono Hb5.out.size), hb6⟩
            clear hb6 HRo
            go_wp2_with fail
            refine (HO.out w6 H6.out.2).mono ?_
            rintro e w7 ⟨v7, rfl, hop, hb7⟩
            obtain ⟨g7, u7, rfl, _⟩ := hop.2 hR
            have H7 : Hid (Below w.heap.size w w7) := H6.out.1.trans (hb7.mono H6.out.1.size)
            clear hop hb7 HO
            go_wp2_with fail
            go_ret
            exact ⟨rfl, H7.out⟩
          · have hRi : ((R.2 : Int) == 0) = false := by simp [hR]
            have hRn : ((R.2 : Int) != 0) = true := by simp [hR]
            have hR0 : ¬ (R.2 : Int) = 0 := by omega
            go_wp2_with fail
            refine HRo.out.mono ?_
            rintro e w6 ⟨A6, m6, c6, rfl, _, hb6⟩
            have H6 : Hid (Below w.heap.size w w6 ∧ Below wc.heap.size wc w6) := ⟨Hb5.out.trans (hb6.mono Hb5.out.size), hb6⟩
            clear hb6 HRo
            go_wp2_with fail
            refine (HO.out w6 H6.out.2).mono ?_
            rintro e w7 ⟨v7, rfl, hop, hb7⟩
            obtain rfl := hop.1 hR
            have H7 : Hid (Below w.heap.size w w7) := H6.out.1.trans (hb7.mono H6.out.1.size)
            clear hop hb7 HO
            go_wp2_with fail
            go_ret
            exact ⟨rfl, H7.out⟩
  · have he1 : ¬ (eb : Int) = 0 := by omega
    have he2 : ((eb : Int) != 0) = true := by rw [bne_iff_ne]; exact he1
    clear Hlb he
    go_wp2_with fail
    go_ret
    exact ⟨rfl, H4.out.2.1⟩
end
end Go.Proofs.YtghcfmkmndldoaaDoor
