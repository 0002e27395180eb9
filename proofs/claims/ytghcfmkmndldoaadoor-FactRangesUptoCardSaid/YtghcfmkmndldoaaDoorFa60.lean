/-
  FactBack: the walk.
-/
import Derived.Test.YtghcfmkmndldoaaDoorFa57
import Derived.Test.YtghcfmkmndldoaaDoorFa58
import Derived.Test.YtghcfmkmndldoaaDoorFa49
import Derived.Test.YtghcfmkmndldoaaDoorKFa43
namespace Go.Proofs.YtghcfmkmndldoaaDoor
open Go.RowKit Go.Sort Go.Lib

theorem buildE_fit {fs : List Fc} {block : Int} (hs : SFit fs) (h : buildE fs block = 0) : ∀ f ∈ fs, FitF f := fun f hf => by
  unfold buildE at h
  have h9 := hs.2.2 f hf
  split at h
  · cases h
  · split at h
    · cases h
    · split at h
      · cases h
      · rename_i hq
        have hq2 : ¬ (fs.any longF = true) := fun q => hq (.inr q)
        rw [List.any_eq_true] at hq2
        have hq3 : ¬ longF f = true := fun q => hq2 ⟨f, hf, q⟩
        unfold longF at hq3
        simp only [Bool.or_eq_true, decide_eq_true_eq, not_or, Nat.not_lt] at hq3
        exact ⟨hq3.1, h9, hq3.2⟩
theorem back_open {fs : List Fc} {block : Int} (hs : SFit fs) (hr : rightF fs = true) (h : buildE fs block = 0) : openF (buildB fs block) = (fs, 0) ∧ (buildB fs block).length ≤ 300000 := by
  unfold buildB
  rw [if_pos h]
  have hb := hs.blk
  obtain ⟨h1, h2⟩ := bodyF_len block.toNat fs.length fs (Nat.le_refl _) (by omega)
  have h3 := hs.1
  refine ⟨tab_back _ fs (buildE_fit hs h) hr (by omega) (by omega) ?_, (tabF_len _ fs hs).2⟩
  rw [sumdF_length]
  omega
theorem buildE_two {fs : List Fc} {block : Int} (hr : rightF fs = true) (hb : 1 ≤ block ∧ block ≤ 1048576) : buildE fs block = 0 ∨ buildE fs block = 3 := by
  unfold buildE
  rw [if_neg (by omega), if_neg (by rw [hr]; simp)]
  split
  · exact .inr rfl
  · exact .inl rfl
def bkF (block : Int) : Int := if block < 1 ∨ 1048576 < block then 100 else block
theorem bkF_bound (block : Int) : 1 ≤ bkF block ∧ bkF block ≤ 1048576 := by
  unfold bkF
  split <;> omega
section
set_option maxRecDepth 100000
set_option maxHeartbeats 8000000
theorem back_any (A : Option Addr) (c : Nat) (fs : List Fc) (block : Int) (lo hi : ByteArray) (w : World) (ht : Tab w) (h : ArgF w A c fs) :
    Calls Tryd.prog 7 #[.slice A fs.length c, .int .i64 block, .string lo, .string hi] w fun e w' => e = .returned (.bool true) ∧ Below w.heap.size w w' := by
  have HK := Lib.hid (known11_any w ht)
  obtain ⟨n, hn⟩ : ∃ n, n = fs.length := ⟨_, rfl⟩
  have HF := Lib.hid (argF_few2 h n hn 400)
  have Hfit := Lib.hid (fun q => argF_fit h (show (400 : Int) ≤ 400 by decide) q)
  have HR := Lib.hid (argF_right h n hn)
  obtain ⟨bk, hbk⟩ : ∃ bk, bk = bkF block := ⟨_, rfl⟩
  have hbk1 : 1 ≤ bk ∧ bk ≤ 1048576 := by rw [hbk]; exact bkF_bound block
  obtain ⟨nb, hnb⟩ : ∃ nb, nb = (buildB fs bk).length := ⟨_, rfl⟩
  have HB1 := Lib.hid (fun hs => argF_build h ht hs n hn bk nb hnb)
  have Htwo := Lib.hid (fun hr => buildE_two (fs := fs) hr hbk1)
  have HO : Hid (SFit fs → rightF fs = true → buildE fs bk = 0 → ∀ W A' c', Below w.heap.size w W → RB W W.heap.size A' (buildB fs bk) → nb ≤ c' → Calls Tryd.prog 30 #[.slice A' nb c'] W fun e w' => ∃ g A2 c2, e = .returned (.tuple #[.pointer (some ⟨g, 0, none⟩), .int .i64 0]) ∧ TabL w' g A2 c2 fs ∧ Below W.heap.size W w') := fun hs hr he W A' c' hW hrb hc => by
    obtain ⟨q1, q2⟩ := back_open hs hr he
    rw [hnb] at hc ⊢
    refine Calls.mono (open_any A' c' (buildB fs bk) W (ht.below hW ht.pos) hrb (by omega) hc) ?_
    rintro e w' ⟨v, rfl, ho, hb⟩
    obtain ⟨g, A2, c2, rfl, _, hT⟩ := TabL.of_open ho (by rw [q1]) (by omega)
    rw [q1] at hT
    exact ⟨g, A2, c2, by rw [q1]; rfl, hT, hb⟩
  have HLk : Hid (∀ W g A2 c2, Below w.heap.size w W → TabL W g A2 c2 fs → Calls Tryd.prog 32 #[.pointer (some ⟨g, 0, none⟩), .slice A n c, .string lo, .string hi] W fun e w' => e = .returned (.bool true) ∧ Below W.heap.size W w') := fun W g A2 c2 hW hT => by
    rw [hn]
    exact looks_any g A2 A c2 c fs lo hi W hT ((h.1.below hW).wide hW.size)
  rw [← hn]
  have Hnb := Lib.hid hnb
  have Hbk : Hid (bk = bkF block) := hbk
  generalize buildE fs bk = eb at *
  generalize buildB fs bk = bb at *
  generalize (decide ((fs.length : Int) ≤ 400) && decide (sumF fs ≤ 131072)) = q at HF Hfit
  generalize rightF fs = r at *
  clear hn hnb h ht hbk hbk1
  go_enter Tryd.func7, Tryd.ntmps7
  go_wp2_with fail
  refine HK.out.mono ?_
  rintro e w1 ⟨rfl, hb1⟩
  have H1 := Lib.hid hb1
  clear hb1 HK
  go_wp2_with fail
  refine (HF.out w1 H1.out).mono ?_
  rintro e w2 ⟨rfl, hb2⟩
  have H2 := Lib.hid hb2
  clear hb2 HF H1
  cases q with
  | false =>
    go_wp2_with fail
    go_ret
    exact ⟨rfl, H2.out⟩
  | true =>
  have Hs := Lib.hid (Hfit.out rfl)
  go_wp2_with fail
  refine (HR.out w2 H2.out).mono ?_
  rintro e w3 ⟨rfl, hb3⟩
  have H3 := Lib.hid hb3
  clear hb3 HR H2 Hfit
  cases r with
  | false =>
    go_wp2_with fail
    go_ret
    exact ⟨rfl, H3.out⟩
  | true =>
  have HO2 := Lib.hid (HO.out Hs.out rfl)
  have Htwo2 := Lib.hid (Htwo.out rfl)
  clear HO Htwo
  obtain ⟨z, hz⟩ : ∃ z, wrap64 ((lo.size : Int) + (hi.size : Int)) = z := ⟨_, rfl⟩
  by_cases hg2 : (5000 : Int) < z
  · go_wp2_with fail
    go_ret
    exact ⟨rfl, H3.out⟩
  go_upto_region 5 with fail
  clear hz hg2
  go_cut [36] (fun v wx => w3 = wx ∧ v = .bool (decide (block < 1) || decide (1048576 < block)))
  case first => as_aux_lemma =>
    clear HLk HO2 Htwo2 HB1 Hs Hnb H3 Hbk
    by_cases hk1 : block < 1
    · go_wp2_with fail
      go_meet
      exact ⟨rfl, by simp [hk1]⟩
    by_cases hk2 : 1048576 < block
    · go_wp2_with fail
      go_meet
      exact ⟨rfl, by simp [hk2]⟩
    · go_wp2_with fail
      go_meet
      exact ⟨rfl, by simp; omega⟩
  case rest =>
  obtain ⟨rfl, rfl⟩ := hcut
  have Hbk2 : Hid ((decide (block < 1) || decide (1048576 < block)) = true → bk = 100) := fun q => by
    rw [Hbk.out]; unfold bkF; rw [if_pos (by simpa using q)]
  have Hbk3 : Hid ((decide (block < 1) || decide (1048576 < block)) = false → bk = block) := fun q => by
    rw [Hbk.out]; unfold bkF; rw [if_neg (by intro q2; simp at q; omega)]
  clear Hbk
  generalize (decide (block < 1) || decide (1048576 < block)) = qb at *
  go_upto_if 36 with fail
  go_cut [1] (fun v wx => w3 = wx ∧ v = .int .i64 bk)
  case first => as_aux_lemma =>
    clear HLk HO2 Htwo2 HB1 Hs Hnb H3
    cases qb with
    | true =>
      obtain rfl := Hbk2.out rfl
      go_wp2_with fail
      go_meet
      exact ⟨rfl, rfl⟩
    | false =>
      obtain rfl := Hbk3.out rfl
      go_wp2_with fail
      go_meet
      exact ⟨rfl, rfl⟩
  case rest =>
    obtain ⟨rfl, rfl⟩ := hcut
    clear Hbk2 Hbk3
    go_wp2_with fail
    refine (HB1.out Hs.out w3 H3.out).mono ?_
    rintro e w4 ⟨A4, c4, rfl, ho4, hb4⟩
    have H4 : Hid (Own w4 w3.heap.size (.slice A4 nb c4) bb ∧ Below w.heap.size w w4 ∧ w.heap.size ≤ w3.heap.size) := ⟨ho4, H3.out.trans (hb4.mono H3.out.size), H3.out.size⟩
    clear ho4 hb4 HB1 H3
    rcases Htwo2.out with he | he
    · subst he
      obtain ⟨A5, c5, e5, hc5, hr5, _⟩ := H4.out.1.rb
      cases e5
      rw [← Hnb.out] at hc5
      have HO4 := Lib.hid (HO2.out rfl w4 A4 c4 H4.out.2.1 hr5 hc5)
      clear HO2 hr5 hc5
      go_wp2_with fail
      refine HO4.out.mono ?_
      rintro e w5 ⟨g, A6, c6, rfl, hT, hb5⟩
      have hw5 : Below w.heap.size w w5 := H4.out.2.1.trans (hb5.mono H4.out.2.1.size)
      have HL := Lib.hid (HLk.out w5 g A6 c6 hw5 hT)
      have H5 := Lib.hid hw5
      clear hT hb5 hw5 HO4 H4 HLk
      go_wp2_with fail
      refine HL.out.mono ?_
      rintro e w6 ⟨rfl, hb6⟩
      have H6 : Hid (Below w.heap.size w w6) := H5.out.trans (hb6.mono H5.out.size)
      clear hb6 HL H5
      go_wp2_with fail
      go_ret
      exact ⟨rfl, H6.out⟩
    · subst he
      clear HO2 HLk
      go_wp2_with fail
      go_ret
      exact ⟨rfl, H4.out.2.1⟩
end
end Go.Proofs.YtghcfmkmndldoaaDoor
