/-
  RsOwn, walked.
-/
import Derived.Test.YtonihcgjepfpkaaKRs19
import Derived.Test.YtonihcgjepfpkaaKGf25
namespace Go.Proofs.Ytonihcgjepfpkaa
open Go.RowKit

set_option maxRecDepth 20000
theorem listO_step {w wr w1 : World} {v rv : Value} {rows : List Value} {L : Mtx} {l : List UInt8} (h : ListO w v rows L wr) (ho : Own w1 wr.heap.size rv l) (hb : Below wr.heap.size wr w1) :
    OwnV (w1.alloc (.cells #[rv] 41)) w.heap.size 41 v rows ∧ w.heap.size ≤ w1.heap.size ∧
      ∀ v' w', OwnV w' w.heap.size 41 v' (rows ++ [rv]) → (w1.alloc (.cells #[rv] 41)).grownBy w' v.ownBlock → ListO w v' (rows ++ [rv]) (L ++ [l]) w' := by
  have hb1 : Below wr.heap.size wr (w1.alloc (.cells #[rv] 41)) := hb.alloc hb.size _
  have h1 := h.below hb1
  have ho' : Own (w1.alloc (.cells #[rv] 41)) w.heap.size rv l := (ho.wide h.bel.size).move fun g hg => Below.heap_alloc _ _ _ (ho.lt g hg).2
  exact ⟨h1.head, Nat.le_trans h.bel.size hb.size, fun v' w' q1 q2 => h1.push ho' q1 q2⟩
set_option maxHeartbeats 8000000 in
theorem rsOwn_any (A : Option Addr) (cA Nb : Nat) (a : Mtx) (gone : Int) (w : World) (ha : RM w w.heap.size A a) (hNa : Nb = a.length) (hla : a.length ≤ 1048576) (hra : ∀ (k : Nat) (l : List UInt8), a[k]? = some l → l.length ≤ 1048576) :
    Calls Try.prog 7 #[.slice A Nb cA, .int .i64 gone] w fun e w' => e = .returned (.bool true) ∧ Below w.heap.size w w' := by
  have Hk := Lib.hid (known6_any w)
  have HFa : Hid (∀ W, Below w.heap.size w W → Calls Try.prog 9 #[.slice A Nb cA] W fun e w' => e = .returned (.bool (fewS a)) ∧ W = w') := fun W hW => by rw [hNa]; exact few6_any A cA a W _ (ha.below hW) hla hra
  have Ha := Lib.hid ha
  have Hlen := Lib.hid hra
  have HN := Lib.hid hNa
  have hNa' : (Nb : Int) ≤ 1048576 := by omega
  clear ha hNa hla hra
  go_enter Try.func7, Try.ntmps7
  go_wp2_with fail
  refine Hk.out.mono ?_
  rintro e w1 ⟨rfl, hb1⟩
  have Hb1 := Lib.hid hb1
  have HFa1 := Lib.hid (HFa.out w1 hb1)
  clear hb1 Hk HFa
  by_cases c1 : (Nb : Int) < 1
  · go_wp2_with fail
    go_ret
    exact ⟨rfl, Hb1.out⟩
  by_cases c2 : (32 : Int) < (Nb : Int)
  · go_wp2_with fail
    go_ret
    exact ⟨rfl, Hb1.out⟩
  rcases hfa : fewS a with _ | _
  · rw [hfa] at HFa1
    go_wp2_with fail
    refine HFa1.out.mono ?_
    rintro e w2 ⟨rfl, rfl⟩
    go_wp2_with fail
    go_ret
    exact ⟨rfl, Hb1.out⟩
  rw [hfa] at HFa1
  obtain ⟨fa1, fa2⟩ := few_facts hfa
  obtain ⟨n, hn⟩ : ∃ n, n = (a.headD []).length := ⟨_, rfl⟩
  obtain ⟨ba, oa, rfl, hba⟩ := Ha.out.at_ (by have := HN.out; omega)
  have ha0 := head_get (M := a) (by have := HN.out; omega)
  obtain ⟨A0, c0, q0, _, _⟩ := Ha.out.row ha0
  rw [← hn, Nat.add_zero] at q0
  have hn4 : n ≤ 4000 := by rw [hn]; have := sumS_le ha0; omega
  have Hq0 : Hid (∀ W, Below w.heap.size w W → W.cell? ⟨ba, oa, none⟩ = some (.slice A0 n c0)) := fun W hW => (hW.cell (p := ⟨ba, oa, none⟩) hba).trans q0
  have q1 := Hq0.out w1 Hb1.out
  by_cases hn0 : n = 0
  · subst hn0
    clear q0 hn ha0
    go_wp2_with fail
    refine HFa1.out.mono ?_
    rintro e w2 ⟨rfl, rfl⟩
    go_wp2_with fail
    go_ret
    exact ⟨rfl, Hb1.out⟩
  have c6 : ((n : Int) == 0) = false := by simp; omega
  have Hn : Hid (n = (a.headD []).length ∧ 1 ≤ n ∧ n ≤ 4000 ∧ 1 ≤ Nb ∧ Nb ≤ 32 ∧ ba < w.heap.size ∧ a[0]? = some (a.headD [])) := ⟨hn, by omega, hn4, by omega, by omega, hba, ha0⟩
  have hn' : (n : Int) ≤ 4000 := by omega
  have hN32 : (Nb : Int) ≤ 32 := by omega
  clear q0 hn ha0 hfa fa1 fa2 hn4 hn0 hba c2 hNa'
  go_wp2_with fail
  refine HFa1.out.mono ?_
  rintro e w2 ⟨rfl, rfl⟩
  go_wp2_with fail
  have e1 : decide ((Nb : Int) < 1) = false := by simp; omega
  have e2 : decide ((32 : Int) < (Nb : Int)) = false := by simp; omega
  simp only [e1, e2, Bool.or_false]
  clear e1 e2 q1 HFa1
  obtain ⟨w3, hw3⟩ : ∃ w3, w3 = w1.alloc (.cells #[.int .i64 (Nb : Int)] 47) := ⟨_, rfl⟩
  have HNw : Hid (Calls Try.prog 10 #[.int .i64 (Nb : Int)] w1 fun e w' => e = .returned (.tuple #[.pointer (some ⟨w1.heap.size, 0, none⟩), .int .i64 0]) ∧ w' = w3) := by rw [hw3]; exact new_yes Nb w1 (by omega) (by omega)
  have H3 : Hid (Below w.heap.size w w3 ∧ w3.cell? ⟨w1.heap.size, 0, none⟩ = some (.int .i64 (Nb : Int)) ∧ w1.heap.size < w3.heap.size) := by
    have hc3 : w3.cell? ⟨w1.heap.size, 0, none⟩ = some (.int .i64 (Nb : Int)) := by rw [hw3]; exact cell_new _ _ _
    refine ⟨?_, hc3, World.block_lt_of_cell? _ _ hc3⟩
    rw [hw3]
    exact Hb1.out.alloc Hb1.out.size _
  clear hw3
  refine HNw.out.mono ?_
  rintro e w' ⟨rfl, rfl⟩
  obtain ⟨w3, rfl⟩ : ∃ w3 : World, w3 = w' := ⟨_, rfl⟩
  have hbal : ba < w3.heap.size := by have := H3.out.1.size; have := Hn.out.2.2.2.2.2.1; omega
  have Hst : Hid (ListO w3 (.slice none 0 0) [] (a.take 0) w3) := ListO.nil _ _ (Below.refl _ _)
  clear HNw
  go_wp2_with fail
  go_loopw [8, 9] (fun vv iv wz => ∃ (v : Value) (t : Nat) (rows : List Value), vv = v ∧ iv = .int .i64 (t : Int) ∧ t ≤ Nb ∧ Hid (ListO w3 v rows (a.take t) wz)) (fun _ iv _ => Nb - (intOf iv).toNat)
  case atStart => exact ⟨_, 0, _, rfl, rfl, Nat.zero_le _, Hst.out⟩
  case round =>
    obtain ⟨v, k, rows, rfl, rfl, hk, hrel⟩ := hrel
    by_cases hlt : k < Nb
    · have hlt' : (k : Int) < (Nb : Int) := by omega
      obtain ⟨x, hx⟩ : ∃ x, a[k]? = some x := ⟨_, List.getElem?_eq_getElem (by have := HN.out; omega)⟩
      obtain ⟨A', c', hc, hrb, _⟩ := (Ha.out.below H3.out.1).row hx
      have kl : (wr.alloc (.cells #[] 5)).cell? ⟨ba, oa + k, none⟩ = some (.slice A' x.length c') := (World.cell?_alloc_lt wr _ ⟨ba, oa + k, none⟩ (Nat.lt_of_lt_of_le hbal hrel.out.bel.size)).trans ((hrel.out.bel.cell (p := ⟨ba, oa + k, none⟩) hbal).trans hc)
      have Hrb : Hid (RB wr wr.heap.size A' x ∧ x.length ≤ 1048576) := ⟨(hrb.wide H3.out.1.size |>.below hrel.out.bel).wide hrel.out.bel.size, Hlen.out k x hx⟩
      have hrows : rows.length = k := by
        rw [hrel.out.len, List.length_take]
        have := (List.getElem?_eq_some_iff.1 hx).1
        omega
      have HSt : Hid (∀ rv w1, Own w1 wr.heap.size rv x → Below wr.heap.size wr w1 → OwnV (w1.alloc (.cells #[rv] 41)) w3.heap.size 41 u8 rows ∧ w3.heap.size ≤ w1.heap.size ∧
          ∀ v' w', OwnV w' w3.heap.size 41 v' (rows ++ [rv]) → (w1.alloc (.cells #[rv] 41)).grownBy w' u8.ownBlock → ListO w3 v' (rows ++ [rv]) (a.take (k + 1)) w') := fun rv w1 ho hb => by
        rw [List.take_add_one, hx]
        exact listO_step hrel.out ho hb
      have hk32 : k ≤ 32 := by omega
      clear hx hc hrb hrel hlt
      go_wp2_with (first
        | (at_builtin; (refine app_bytes rfl (.tmp 52) (.tmp 56) rfl wr.heap.size _ [] rfl (Own.made wr _ (Nat.le_refl _)) _ A' x.length c' x rfl rfl (Hrb.out.1.alloc (Nat.le_refl _) _) (by have := Hrb.out.2; simp; omega) (by simp) ?_); intro rv w9 hown hbel _; obtain ⟨A9, c9, rfl, _⟩ := hown.rb; obtain ⟨r1, r2, r3⟩ := HSt.out _ w9 (by simpa using hown) (((Below.refl _ _).alloc (Nat.le_refl _) _).trans hbel); have Hr1 := Lib.hid r1; have Hr2 := Lib.hid r2; have Hr3 := Lib.hid r3; clear r1 r2 r3 hown hbel HSt kl)
        | (at_builtin; go_must (refine app_one rfl (.tmp 51) (.tmp 58) 22 41 rfl Try.underlying22 (.slice none 0 0) 24 info_row rfl w3.heap.size _ rows rfl Hr1.out ⟨w9.heap.size, 0, none⟩ 1 _ rfl (cell_new _ _ _) rfl (by omega) (by omega) (by have := Hr2.out; simp; omega) ?_); intro v9 W9 hown9 hg9 _; have Hn9 := Lib.hid (Hr3.out v9 W9 hown9 hg9); clear hown9 hg9))
      go_roundw
      case rel => exact ⟨v9, k + 1, _, rfl, by go_num, by omega, Hn9.out⟩
      case measure => simp [intOf]; omega
    obtain rfl : k = Nb := by omega
    have hak : a.take k = a := List.take_of_length_le (by have := HN.out; omega)
    rw [hak] at hrel
    obtain ⟨gm, cm, em, hgm1, hgm2, _⟩ := own_cells hrel.out.head (by rw [hrel.out.len]; have := HN.out; omega)
    rw [hrel.out.len, ← HN.out] at em
    subst em
    obtain ⟨Am, cm', em', hcm, rmm⟩ := hrel.out.rm
    rw [← HN.out] at em'
    cases em'
    have Hm : Hid (ListO w3 (.slice (some ⟨gm, 0, none⟩) k cm) rows a wr ∧ RM wr wr.heap.size (some ⟨gm, 0, none⟩) a) := ⟨hrel.out, rmm⟩
    have HPar := Lib.hid (parity_any w1.heap.size k k cm (some ⟨gm, 0, none⟩) a wr ((hrel.out.bel.cell (p := ⟨w1.heap.size, 0, none⟩) H3.out.2.2).trans H3.out.2.1) rmm HN.out (by omega) (by omega) (by omega) (fun t l hl => Hlen.out t l hl))
    obtain ⟨wm, rfl⟩ : ∃ wm : World, wm = wr := ⟨_, rfl⟩
    clear hrel hlt hak hcm rmm hgm1 hgm2
    rcases hpb : parB k a with _ | _
    · have e1 : parL k a = [] := by unfold parL; rw [hpb]; rfl
      have e2 : parE k a = 1 := by unfold parE; rw [hpb]; rfl
      rw [e1, e2] at HPar
      have HP2 : Hid (Calls Try.prog 12 #[.pointer (some ⟨w1.heap.size, 0, none⟩), .slice (some ⟨gm, 0, none⟩) k cm] wm fun e w' => ∃ A8 c8, e = .returned (.tuple #[.slice A8 0 c8, .int .i64 1]) ∧ Below wm.heap.size wm w') := HPar.out.mono fun e w' hx => by
        obtain ⟨A8, c8, g1, _, g2⟩ := hx
        exact ⟨A8, c8, g1, g2⟩
      clear e1 e2 hpb HPar
      go_wp2_with fail
      refine HP2.out.mono ?_
      rintro e w4 ⟨A8, c8, rfl, b4⟩
      have Hf : Hid (Below w.heap.size w w4) := H3.out.1.trans ((Hm.out.1.bel.trans (b4.mono Hm.out.1.bel.size)).mono H3.out.1.size)
      clear b4 HP2
      go_wp2_with fail
      go_ret
      exact ⟨rfl, Hf.out⟩
    obtain ⟨_, pf2, pf3⟩ := par_facts hpb Hn.out.2.2.2.1
    rw [← Hn.out.1] at pf3
    have Hla : Hid (∀ (t : Nat) (l : List UInt8), a[t]? = some l → l.length = n) := pf3
    have e1 : parL k a = linM (pairsM k) a n := by unfold parL; rw [if_pos hpb, ← Hn.out.1]
    have e2 : parE k a = 0 := by unfold parE; rw [if_pos hpb]
    rw [e1, e2] at HPar
    have HP2 : Hid (Calls Try.prog 12 #[.pointer (some ⟨w1.heap.size, 0, none⟩), .slice (some ⟨gm, 0, none⟩) k cm] wm fun e w' => ∃ A8 c8, e = .returned (.tuple #[.slice A8 2 c8, .int .i64 0]) ∧ RM w' w'.heap.size A8 (linM (pairsM k) a n) ∧ Below wm.heap.size wm w') := HPar.out.mono fun e w' hx => by
      obtain ⟨A8, c8, g1, g2, _, g3⟩ := hx.rm
      exact ⟨A8, c8, g1, g2, g3⟩
    clear e1 e2 hpb HPar pf2 pf3
    go_wp2_with fail
    refine HP2.out.mono ?_
    rintro e w4 ⟨A4, c4, rfl, r4, b4⟩
    have Hb4 : Hid (Below wm.heap.size wm w4 ∧ Below w3.heap.size w3 w4) := ⟨b4, Hm.out.1.bel.trans (b4.mono Hm.out.1.bel.size)⟩
    obtain ⟨b4', o4, rfl, _⟩ := r4.at_ (by simp [linM, pairsM])
    obtain ⟨ra, hra1, hra2, hra3⟩ := rm_rows (Hm.out.2.below Hb4.out.1)
    obtain ⟨rp, hrp1, hrp2, hrp3⟩ := rm_rows r4
    have Hra : Hid (k = ra.length ∧ 2 = rp.length ∧ (∀ u ∈ ra, u.oneCell' = true) ∧ (∀ u ∈ rp, u.oneCell' = true) ∧ (∀ (j : Nat) (u : Value), ra[j]? = some u → w4.cell? ⟨gm, 0 + j, none⟩ = some u) ∧ (∀ (j : Nat) (u : Value), rp[j]? = some u → w4.cell? ⟨b4', o4 + j, none⟩ = some u) ∧
        ∀ (t : Nat) (r : Value) (l : List UInt8), (ra ++ rp)[t]? = some r → (allD k n a)[t]? = some l → ∃ A c, r = .slice A l.length c ∧ RB w4 w4.heap.size A l ∧ l.length ≤ c) := ⟨by rw [hra1]; exact HN.out, by rw [hrp1]; simp [linM, pairsM], rows_one hra1 hra3, rows_one hrp1 hrp3, hra2, hrp2, rows_append hra1 Hb4.out.1.size hra3 hrp3⟩
    have hra32 : ra.length ≤ 32 := by have := Hra.out.1; omega
    have hrp2' : rp.length = 2 := Hra.out.2.1.symm
    have hgml : gm < w4.heap.size := by
      obtain ⟨u, hu⟩ : ∃ u, ra[0]? = some u := ⟨_, List.getElem?_eq_getElem (by have := Hra.out.1; omega)⟩
      exact World.block_lt_of_cell? _ _ (Hra.out.2.2.2.2.1 0 u hu)
    have hb4l : b4' < w4.heap.size := by
      obtain ⟨u, hu⟩ : ∃ u, rp[0]? = some u := ⟨_, List.getElem?_eq_getElem (by omega)⟩
      exact World.block_lt_of_cell? _ _ (Hra.out.2.2.2.2.2.1 0 u hu)
    clear r4 b4 hra1 hra2 hra3 hrp1 hrp2 hrp3 HP2
    by_cases hx0 : gone < 0
    · have d0 : decide (0 ≤ gone) = false := by simp; omega
      go_wp2_with (first
        | (at_builtin; (refine app_many rfl (.tmp 68) (.tmp 69) 22 41 rfl Try.underlying22 (.slice none 0 0) 24 info_row rfl w4.heap.size _ [] rfl (own_made w4 _ (Nat.le_refl _)) ⟨gm, 0, none⟩ k cm ra rfl Hra.out.1 (fun j u hj => by rw [add_flat]; exact (World.cell?_alloc_lt w4 _ ⟨gm, 0 + j, none⟩ hgml).trans (Hra.out.2.2.2.2.1 j u hj)) Hra.out.2.2.1 (by simp; omega) (by simp; omega) (by simp) ?_); intro v5 w5 hown hg _; have H5 : Hid (OwnV w5 w4.heap.size 41 v5 ra ∧ Below w4.heap.size w4 w5) := ⟨by simpa using hown, ((Below.refl _ _).alloc (Nat.le_refl _) _).grown hg (by simp) (fun g hg => by cases hg; exact Nat.le_refl _)⟩; clear hown hg)
        | (at_builtin; go_must (refine app_many rfl (.tmp 70) (.tmp 71) 22 41 rfl Try.underlying22 (.slice none 0 0) 24 info_row rfl w4.heap.size _ ra rfl H5.out.1 ⟨b4', o4, none⟩ 2 c4 rp rfl Hra.out.2.1 (fun j u hj => by rw [add_flat]; exact (H5.out.2.cell (p := ⟨b4', o4 + j, none⟩) hb4l).trans (Hra.out.2.2.2.2.2.1 j u hj)) Hra.out.2.2.2.1 (by omega) (by omega) H5.out.2.size ?_); intro v6 w6 hown hg _; have H6 : Hid (ListR w4 v6 (ra ++ rp) (allD k n a) w6) := ListR.of_own hown (H5.out.2.grown hg H5.out.2.size (fun g hg => (H5.out.1.ge g hg).1)) (by rw [List.length_append, allD_length HN.out.symm]; have := Hra.out; omega) Hra.out.2.2.2.2.2.2; clear hown hg; obtain ⟨g6, c6', e6, _, hg62, _⟩ := own_cells H6.out.head (by rw [List.length_append]; have := Hra.out; omega); have e62 : (ra ++ rp).length = k + 2 := (by rw [List.length_append]; have := Hra.out; omega); rw [e62] at e6; subst e6; clear e62))
      have HYes : Hid (∀ (rows : List Value) (S : Mtx) (W : World), ListR w4 (.slice (some ⟨g6, 0, none⟩) (k + 2) c6') rows S W → Sub (allD k n a) S → (missL S).length ≤ 2 → Calls Try.prog 16 #[.pointer (some ⟨w1.heap.size, 0, none⟩), .slice (some ⟨g6, 0, none⟩) (k + 2) c6'] W fun e w9 => ∃ g9 c9, e = .returned (.tuple #[.slice (some ⟨g9, 0, none⟩) (k + 2) c9, .int .i64 0]) ∧ MatO w9 W.heap.size w9.heap.size (.slice (some ⟨g9, 0, none⟩) (k + 2) c9) (allD k n a) ∧ Below W.heap.size W w9) := fun rows S W hL hs hm => by
        have hb36 : Below w3.heap.size w3 W := Hb4.out.2.trans (hL.bel.mono Hb4.out.2.size)
        have := rebuild_any w1.heap.size k (k + 2) c6' (some ⟨g6, 0, none⟩) S W ((hb36.cell (p := ⟨w1.heap.size, 0, none⟩) H3.out.2.2).trans H3.out.2.1) hL.rm' (by rw [hs.1, allD_length HN.out.symm]) (by have := Hn.out; omega) Hn.out.2.2.2.1 (by have := Hn.out; omega) (fun t l hl => by
          rcases (sub_fit HN.out.symm Hla.out hs).2 t l hl with h | h
          · omega
          · have := Hn.out; omega)
        obtain ⟨e1, e2⟩ := any_reb Hn.out.2.2.2.1 (by have := Hn.out; omega) Hn.out.2.1 HN.out.symm Hla.out hs hm
        rw [e1, e2] at this
        refine this.mono fun e w9 hx => ?_
        obtain ⟨A9, c9, g1, g2, g3⟩ := hx
        rw [allD_length HN.out.symm] at g1 g2
        obtain ⟨g9, c9', e9, _⟩ := g2.head (by rw [allD_length HN.out.symm]; omega)
        rw [allD_length HN.out.symm] at e9
        cases e9
        exact ⟨g9, c9, g1, g2, g3⟩
      have Hst6 : Hid (Sub (allD k n a) (allD k n a) ∧ (missL (allD k n a)).length = 0 ∧ Below wm.heap.size wm w6) := ⟨Sub.refl _, missL_full fun t l hl => by rw [allD_row HN.out.symm Hla.out hl]; have := Hn.out; omega, Hb4.out.1.trans (H6.out.bel.mono Hb4.out.1.size)⟩
      clear hra32 hrp2' hgml hb4l hg62
      obtain ⟨W7, rfl⟩ : ∃ W7 : World, W7 = w6 := ⟨_, rfl⟩
      have HL : Hid (ListR w4 (.slice (some ⟨g6, 0, none⟩) (k + 2) c6') (ra ++ rp) (allD k n a) W7 ∧ Sub (allD k n a) (allD k n a) ∧ (missL (allD k n a)).length ≤ 2) := ⟨H6.out, Hst6.out.1, by rw [Hst6.out.2.1]; omega⟩
      have HB7 : Hid (Below wm.heap.size wm W7 ∧ True) := ⟨Hst6.out.2.2, trivial⟩
      have HR := Lib.hid (HYes.out _ _ _ HL.out.1 HL.out.2.1 HL.out.2.2)
      refine HR.out.mono ?_
      rintro e w9 ⟨g9, c9, rfl, m9, b9⟩
      have Hs0 : Hid (Sp w9 W7.heap.size w9.heap.size g9 (k + 2) c9 (allD k n a) w9 ∧ Below W7.heap.size W7 w9) := ⟨⟨_, m9, rfl, fun t l hl => ⟨l, hl, rfl⟩, Out.refl _ _ _⟩, b9⟩
      clear m9 b9 HR
      go_wp2_with fail
      go_loopw [15] (fun iv wr => ∃ i : Nat, iv = .int .i64 (i : Int) ∧ i ≤ k + 2 ∧ Hid (Sp w9 W7.heap.size w9.heap.size g9 (k + 2) c9 (allD k n a) wr)) (fun iv _ => k + 2 - (intOf iv).toNat)
      case atStart => exact ⟨0, rfl, Nat.zero_le _, Hs0.out.1⟩
      case round =>
        obtain ⟨i, rfl, hiN, hrel⟩ := hrel
        by_cases hlt : i < k + 2
        · have hlt' : (i : Int) < (k : Int) + 2 := by omega
          obtain ⟨l, hx⟩ : ∃ l, (allD k n a)[i]? = some l := ⟨_, List.getElem?_eq_getElem (by rw [allD_length HN.out.symm]; exact hlt)⟩
          have Hx : Hid ((allD k n a)[i]? = some l ∧ n = l.length) := ⟨hx, (allD_row HN.out.symm Hla.out hx).symm⟩
          have Hrel := Lib.hid hrel.out
          clear hx hrel
          obtain ⟨wo, rfl⟩ : ∃ wo : World, wo = wr := ⟨_, rfl⟩
          go_wp2_with fail
          go_loopw [16] (fun jv wz => ∃ j : Nat, jv = .int .i64 (j : Int) ∧ j ≤ n ∧ Hid (Sp w9 W7.heap.size w9.heap.size g9 (k + 2) c9 (allD k n a) wz)) (fun jv _ => n - (intOf jv).toNat)
          case atStart => exact ⟨0, rfl, Nat.zero_le _, Hrel.out⟩
          case round =>
            obtain ⟨j, rfl, hjn, hrel⟩ := hrel
            have hhead : ∃ b c', wr.cell? ⟨g9, i, none⟩ = some (.slice (some ⟨b, 0, none⟩) n c') := by
              obtain ⟨M', h1, h2, h3, h4⟩ := hrel.out
              obtain ⟨l', hl', hll⟩ := h3 i l Hx.out.1
              obtain ⟨b, c', hra, hset⟩ := h1.row hl'
              exact ⟨b, c', by rw [Hx.out.2, ← hll]; exact hra.head⟩
            by_cases hjl : j < n
            · have hjl' : (j : Int) < (n : Int) := by omega
              clear hhead
              obtain ⟨b, c', x, k1, k2, k3, k4, k5, k6⟩ := hrel.out.set Hx.out.1 (by rw [← Hx.out.2]; exact hjl)
              rw [← Hx.out.2] at k1 k2
              have Hn0 := Lib.hid k6
              have k2' : (n : Int) ≤ (c' : Int) := by omega
              have Hn2 : Hid (∀ q (z : Int), 0 ≤ z → z < 256 → Sp w9 W7.heap.size w9.heap.size g9 (k + 2) c9 (allD k n a) ((wr.setCell ⟨b, j, none⟩ (.int .u8 z)).drewN q)) := fun q z z0 z1 => by
                obtain ⟨M', h1, h2, h3, h4⟩ := Hn0.out z z0 z1
                exact ⟨M', h1.drewN q, h2, h3, h4.drewN q⟩
              clear k6 hrel hjl
              go_wp2_with fail
              refine wp_region_still_tail 14 (by kernel_rfl) (by kernel_rfl) ?_
              simp only [List.take_succ_cons, List.take_zero, List.drop_succ_cons, List.drop_zero]
              repeat still_step
              try refine wpStill_nil ?_
              change wpList _ _ _ _ _ wr.drew
              go_wp2_with fail
              go_roundw
              case rel => exact ⟨j + 1, by go_num, by omega, Hn2.out 1 _ (by omega) (by omega)⟩
              case measure => simp [intOf]; omega
            · obtain rfl : j = n := by omega
              obtain ⟨b, c', k1⟩ := hhead
              clear hjl
              go_wp2_with fail
              go_roundw
              case rel => exact ⟨i + 1, by go_num, by omega, hrel.out⟩
              case measure => simp [intOf]; omega
        · obtain rfl : i = k + 2 := by omega
          have hout : Out W7.heap.size w9.heap.size w9 wr := by
            obtain ⟨_, _, _, _, h4⟩ := hrel.out
            exact h4
          have hbz : Below W7.heap.size w9 wr := hout.to_below (fun b hb => .inl (by omega)) Hs0.out.2.size
          have hb7 : Below W7.heap.size W7 wr := Hs0.out.2.trans hbz
          have hbm : Below wm.heap.size wm wr := HB7.out.1.trans (hb7.mono HB7.out.1.size)
          have hbw : Below w.heap.size w wr := H3.out.1.trans ((Hm.out.1.bel.trans (hbm.mono Hm.out.1.bel.size)).mono H3.out.1.size)
          have HSm := Lib.hid (same_any (some ⟨gm, 0, none⟩) (some ⟨ba, oa, none⟩) cm cA a a wr _ (Hm.out.2.below hbm |>.wide hbm.size) ((Ha.out.below hbw).wide hbw.size) (by rw [← HN.out]; omega))
          rw [← HN.out, decide_eq_true rfl] at HSm
          have Hbw := Lib.hid hbw
          clear hlt hrel hout hbz hb7 hbm hbw
          go_wp2_with fail
          refine HSm.out.mono ?_
          rintro e w10 ⟨rfl, q10, hw10⟩
          have Hf : Hid (Below w.heap.size w w10) := by rw [hw10]; exact drewN_below Hbw.out q10
          clear hw10
          go_wp2_with fail
          go_ret
          exact ⟨rfl, Hf.out⟩
    have hx1 : 0 ≤ gone := by omega
    by_cases hx2 : (k : Int) + 2 ≤ gone
    · have d0 : decide (gone < (k : Int) + 2) = false := by simp; omega
      go_wp2_with (first
        | (at_builtin; (refine app_many rfl (.tmp 68) (.tmp 69) 22 41 rfl Try.underlying22 (.slice none 0 0) 24 info_row rfl w4.heap.size _ [] rfl (own_made w4 _ (Nat.le_refl _)) ⟨gm, 0, none⟩ k cm ra rfl Hra.out.1 (fun j u hj => by rw [add_flat]; exact (World.cell?_alloc_lt w4 _ ⟨gm, 0 + j, none⟩ hgml).trans (Hra.out.2.2.2.2.1 j u hj)) Hra.out.2.2.1 (by simp; omega) (by simp; omega) (by simp) ?_); intro v5 w5 hown hg _; have H5 : Hid (OwnV w5 w4.heap.size 41 v5 ra ∧ Below w4.heap.size w4 w5) := ⟨by simpa using hown, ((Below.refl _ _).alloc (Nat.le_refl _) _).grown hg (by simp) (fun g hg => by cases hg; exact Nat.le_refl _)⟩; clear hown hg)
        | (at_builtin; go_must (refine app_many rfl (.tmp 70) (.tmp 71) 22 41 rfl Try.underlying22 (.slice none 0 0) 24 info_row rfl w4.heap.size _ ra rfl H5.out.1 ⟨b4', o4, none⟩ 2 c4 rp rfl Hra.out.2.1 (fun j u hj => by rw [add_flat]; exact (H5.out.2.cell (p := ⟨b4', o4 + j, none⟩) hb4l).trans (Hra.out.2.2.2.2.2.1 j u hj)) Hra.out.2.2.2.1 (by omega) (by omega) H5.out.2.size ?_); intro v6 w6 hown hg _; have H6 : Hid (ListR w4 v6 (ra ++ rp) (allD k n a) w6) := ListR.of_own hown (H5.out.2.grown hg H5.out.2.size (fun g hg => (H5.out.1.ge g hg).1)) (by rw [List.length_append, allD_length HN.out.symm]; have := Hra.out; omega) Hra.out.2.2.2.2.2.2; clear hown hg; obtain ⟨g6, c6', e6, _, hg62, _⟩ := own_cells H6.out.head (by rw [List.length_append]; have := Hra.out; omega); have e62 : (ra ++ rp).length = k + 2 := (by rw [List.length_append]; have := Hra.out; omega); rw [e62] at e6; subst e6; clear e62))
      have HYes : Hid (∀ (rows : List Value) (S : Mtx) (W : World), ListR w4 (.slice (some ⟨g6, 0, none⟩) (k + 2) c6') rows S W → Sub (allD k n a) S → (missL S).length ≤ 2 → Calls Try.prog 16 #[.pointer (some ⟨w1.heap.size, 0, none⟩), .slice (some ⟨g6, 0, none⟩) (k + 2) c6'] W fun e w9 => ∃ g9 c9, e = .returned (.tuple #[.slice (some ⟨g9, 0, none⟩) (k + 2) c9, .int .i64 0]) ∧ MatO w9 W.heap.size w9.heap.size (.slice (some ⟨g9, 0, none⟩) (k + 2) c9) (allD k n a) ∧ Below W.heap.size W w9) := fun rows S W hL hs hm => by
        have hb36 : Below w3.heap.size w3 W := Hb4.out.2.trans (hL.bel.mono Hb4.out.2.size)
        have := rebuild_any w1.heap.size k (k + 2) c6' (some ⟨g6, 0, none⟩) S W ((hb36.cell (p := ⟨w1.heap.size, 0, none⟩) H3.out.2.2).trans H3.out.2.1) hL.rm' (by rw [hs.1, allD_length HN.out.symm]) (by have := Hn.out; omega) Hn.out.2.2.2.1 (by have := Hn.out; omega) (fun t l hl => by
          rcases (sub_fit HN.out.symm Hla.out hs).2 t l hl with h | h
          · omega
          · have := Hn.out; omega)
        obtain ⟨e1, e2⟩ := any_reb Hn.out.2.2.2.1 (by have := Hn.out; omega) Hn.out.2.1 HN.out.symm Hla.out hs hm
        rw [e1, e2] at this
        refine this.mono fun e w9 hx => ?_
        obtain ⟨A9, c9, g1, g2, g3⟩ := hx
        rw [allD_length HN.out.symm] at g1 g2
        obtain ⟨g9, c9', e9, _⟩ := g2.head (by rw [allD_length HN.out.symm]; omega)
        rw [allD_length HN.out.symm] at e9
        cases e9
        exact ⟨g9, c9, g1, g2, g3⟩
      have Hst6 : Hid (Sub (allD k n a) (allD k n a) ∧ (missL (allD k n a)).length = 0 ∧ Below wm.heap.size wm w6) := ⟨Sub.refl _, missL_full fun t l hl => by rw [allD_row HN.out.symm Hla.out hl]; have := Hn.out; omega, Hb4.out.1.trans (H6.out.bel.mono Hb4.out.1.size)⟩
      clear hra32 hrp2' hgml hb4l hg62
      obtain ⟨W7, rfl⟩ : ∃ W7 : World, W7 = w6 := ⟨_, rfl⟩
      have HL : Hid (ListR w4 (.slice (some ⟨g6, 0, none⟩) (k + 2) c6') (ra ++ rp) (allD k n a) W7 ∧ Sub (allD k n a) (allD k n a) ∧ (missL (allD k n a)).length ≤ 2) := ⟨H6.out, Hst6.out.1, by rw [Hst6.out.2.1]; omega⟩
      have HB7 : Hid (Below wm.heap.size wm W7 ∧ True) := ⟨Hst6.out.2.2, trivial⟩
      have HR := Lib.hid (HYes.out _ _ _ HL.out.1 HL.out.2.1 HL.out.2.2)
      refine HR.out.mono ?_
      rintro e w9 ⟨g9, c9, rfl, m9, b9⟩
      have Hs0 : Hid (Sp w9 W7.heap.size w9.heap.size g9 (k + 2) c9 (allD k n a) w9 ∧ Below W7.heap.size W7 w9) := ⟨⟨_, m9, rfl, fun t l hl => ⟨l, hl, rfl⟩, Out.refl _ _ _⟩, b9⟩
      clear m9 b9 HR
      go_wp2_with fail
      go_loopw [15] (fun iv wr => ∃ i : Nat, iv = .int .i64 (i : Int) ∧ i ≤ k + 2 ∧ Hid (Sp w9 W7.heap.size w9.heap.size g9 (k + 2) c9 (allD k n a) wr)) (fun iv _ => k + 2 - (intOf iv).toNat)
      case atStart => exact ⟨0, rfl, Nat.zero_le _, Hs0.out.1⟩
      case round =>
        obtain ⟨i, rfl, hiN, hrel⟩ := hrel
        by_cases hlt : i < k + 2
        · have hlt' : (i : Int) < (k : Int) + 2 := by omega
          obtain ⟨l, hx⟩ : ∃ l, (allD k n a)[i]? = some l := ⟨_, List.getElem?_eq_getElem (by rw [allD_length HN.out.symm]; exact hlt)⟩
          have Hx : Hid ((allD k n a)[i]? = some l ∧ n = l.length) := ⟨hx, (allD_row HN.out.symm Hla.out hx).symm⟩
          have Hrel := Lib.hid hrel.out
          clear hx hrel
          obtain ⟨wo, rfl⟩ : ∃ wo : World, wo = wr := ⟨_, rfl⟩
          go_wp2_with fail
          go_loopw [16] (fun jv wz => ∃ j : Nat, jv = .int .i64 (j : Int) ∧ j ≤ n ∧ Hid (Sp w9 W7.heap.size w9.heap.size g9 (k + 2) c9 (allD k n a) wz)) (fun jv _ => n - (intOf jv).toNat)
          case atStart => exact ⟨0, rfl, Nat.zero_le _, Hrel.out⟩
          case round =>
            obtain ⟨j, rfl, hjn, hrel⟩ := hrel
            have hhead : ∃ b c', wr.cell? ⟨g9, i, none⟩ = some (.slice (some ⟨b, 0, none⟩) n c') := by
              obtain ⟨M', h1, h2, h3, h4⟩ := hrel.out
              obtain ⟨l', hl', hll⟩ := h3 i l Hx.out.1
              obtain ⟨b, c', hra, hset⟩ := h1.row hl'
              exact ⟨b, c', by rw [Hx.out.2, ← hll]; exact hra.head⟩
            by_cases hjl : j < n
            · have hjl' : (j : Int) < (n : Int) := by omega
              clear hhead
              obtain ⟨b, c', x, k1, k2, k3, k4, k5, k6⟩ := hrel.out.set Hx.out.1 (by rw [← Hx.out.2]; exact hjl)
              rw [← Hx.out.2] at k1 k2
              have Hn0 := Lib.hid k6
              have k2' : (n : Int) ≤ (c' : Int) := by omega
              have Hn2 : Hid (∀ q (z : Int), 0 ≤ z → z < 256 → Sp w9 W7.heap.size w9.heap.size g9 (k + 2) c9 (allD k n a) ((wr.setCell ⟨b, j, none⟩ (.int .u8 z)).drewN q)) := fun q z z0 z1 => by
                obtain ⟨M', h1, h2, h3, h4⟩ := Hn0.out z z0 z1
                exact ⟨M', h1.drewN q, h2, h3, h4.drewN q⟩
              clear k6 hrel hjl
              go_wp2_with fail
              refine wp_region_still_tail 14 (by kernel_rfl) (by kernel_rfl) ?_
              simp only [List.take_succ_cons, List.take_zero, List.drop_succ_cons, List.drop_zero]
              repeat still_step
              try refine wpStill_nil ?_
              change wpList _ _ _ _ _ wr.drew
              go_wp2_with fail
              go_roundw
              case rel => exact ⟨j + 1, by go_num, by omega, Hn2.out 1 _ (by omega) (by omega)⟩
              case measure => simp [intOf]; omega
            · obtain rfl : j = n := by omega
              obtain ⟨b, c', k1⟩ := hhead
              clear hjl
              go_wp2_with fail
              go_roundw
              case rel => exact ⟨i + 1, by go_num, by omega, hrel.out⟩
              case measure => simp [intOf]; omega
        · obtain rfl : i = k + 2 := by omega
          have hout : Out W7.heap.size w9.heap.size w9 wr := by
            obtain ⟨_, _, _, _, h4⟩ := hrel.out
            exact h4
          have hbz : Below W7.heap.size w9 wr := hout.to_below (fun b hb => .inl (by omega)) Hs0.out.2.size
          have hb7 : Below W7.heap.size W7 wr := Hs0.out.2.trans hbz
          have hbm : Below wm.heap.size wm wr := HB7.out.1.trans (hb7.mono HB7.out.1.size)
          have hbw : Below w.heap.size w wr := H3.out.1.trans ((Hm.out.1.bel.trans (hbm.mono Hm.out.1.bel.size)).mono H3.out.1.size)
          have HSm := Lib.hid (same_any (some ⟨gm, 0, none⟩) (some ⟨ba, oa, none⟩) cm cA a a wr _ (Hm.out.2.below hbm |>.wide hbm.size) ((Ha.out.below hbw).wide hbw.size) (by rw [← HN.out]; omega))
          rw [← HN.out, decide_eq_true rfl] at HSm
          have Hbw := Lib.hid hbw
          clear hlt hrel hout hbz hb7 hbm hbw
          go_wp2_with fail
          refine HSm.out.mono ?_
          rintro e w10 ⟨rfl, q10, hw10⟩
          have Hf : Hid (Below w.heap.size w w10) := by rw [hw10]; exact drewN_below Hbw.out q10
          clear hw10
          go_wp2_with fail
          go_ret
          exact ⟨rfl, Hf.out⟩
    obtain ⟨xn, rfl⟩ : ∃ xn : Nat, gone = (xn : Int) := ⟨gone.toNat, by omega⟩
    have hxi : xn < k + 2 := by omega
    have hx3 : (xn : Int) < (k : Int) + 2 := by omega
    have hXl := allD_length (n := n) HN.out.symm
    obtain ⟨lx, hlx⟩ : ∃ l, (allD k n a)[xn]? = some l := ⟨_, List.getElem?_eq_getElem (by omega)⟩
    have Hlx : Hid ((allD k n a)[xn]? = some lx ∧ xn < (allD k n a).length) := ⟨hlx, by rw [hXl]; exact hxi⟩
    clear hx0 hx1 hx2 hxi hXl hlx
    go_wp2_with (first
      | (at_builtin; (refine app_many rfl (.tmp 68) (.tmp 69) 22 41 rfl Try.underlying22 (.slice none 0 0) 24 info_row rfl w4.heap.size _ [] rfl (own_made w4 _ (Nat.le_refl _)) ⟨gm, 0, none⟩ k cm ra rfl Hra.out.1 (fun j u hj => by rw [add_flat]; exact (World.cell?_alloc_lt w4 _ ⟨gm, 0 + j, none⟩ hgml).trans (Hra.out.2.2.2.2.1 j u hj)) Hra.out.2.2.1 (by simp; omega) (by simp; omega) (by simp) ?_); intro v5 w5 hown hg _; have H5 : Hid (OwnV w5 w4.heap.size 41 v5 ra ∧ Below w4.heap.size w4 w5) := ⟨by simpa using hown, ((Below.refl _ _).alloc (Nat.le_refl _) _).grown hg (by simp) (fun g hg => by cases hg; exact Nat.le_refl _)⟩; clear hown hg)
      | (at_builtin; go_must (refine app_many rfl (.tmp 70) (.tmp 71) 22 41 rfl Try.underlying22 (.slice none 0 0) 24 info_row rfl w4.heap.size _ ra rfl H5.out.1 ⟨b4', o4, none⟩ 2 c4 rp rfl Hra.out.2.1 (fun j u hj => by rw [add_flat]; exact (H5.out.2.cell (p := ⟨b4', o4 + j, none⟩) hb4l).trans (Hra.out.2.2.2.2.2.1 j u hj)) Hra.out.2.2.2.1 (by omega) (by omega) H5.out.2.size ?_); intro v6 w6 hown hg _; have H6 : Hid (ListR w4 v6 (ra ++ rp) (allD k n a) w6) := ListR.of_own hown (H5.out.2.grown hg H5.out.2.size (fun g hg => (H5.out.1.ge g hg).1)) (by rw [List.length_append, allD_length HN.out.symm]; have := Hra.out; omega) Hra.out.2.2.2.2.2.2; clear hown hg; obtain ⟨g6, c6', e6, _, hg62, _⟩ := own_cells H6.out.head (by rw [List.length_append]; have := Hra.out; omega); have e62 : (ra ++ rp).length = k + 2 := (by rw [List.length_append]; have := Hra.out; omega); rw [e62] at e6; subst e6; clear e62; obtain ⟨⟨u, p1⟩, p2, p3⟩ := H6.out.set (i := xn) Hlx.out.2; have P3 := Lib.hid p3; clear p3))
    have HYes : Hid (∀ (rows : List Value) (S : Mtx) (W : World), ListR w4 (.slice (some ⟨g6, 0, none⟩) (k + 2) c6') rows S W → Sub (allD k n a) S → (missL S).length ≤ 2 → Calls Try.prog 16 #[.pointer (some ⟨w1.heap.size, 0, none⟩), .slice (some ⟨g6, 0, none⟩) (k + 2) c6'] W fun e w9 => ∃ g9 c9, e = .returned (.tuple #[.slice (some ⟨g9, 0, none⟩) (k + 2) c9, .int .i64 0]) ∧ MatO w9 W.heap.size w9.heap.size (.slice (some ⟨g9, 0, none⟩) (k + 2) c9) (allD k n a) ∧ Below W.heap.size W w9) := fun rows S W hL hs hm => by
      have hb36 : Below w3.heap.size w3 W := Hb4.out.2.trans (hL.bel.mono Hb4.out.2.size)
      have := rebuild_any w1.heap.size k (k + 2) c6' (some ⟨g6, 0, none⟩) S W ((hb36.cell (p := ⟨w1.heap.size, 0, none⟩) H3.out.2.2).trans H3.out.2.1) hL.rm' (by rw [hs.1, allD_length HN.out.symm]) (by have := Hn.out; omega) Hn.out.2.2.2.1 (by have := Hn.out; omega) (fun t l hl => by
        rcases (sub_fit HN.out.symm Hla.out hs).2 t l hl with h | h
        · omega
        · have := Hn.out; omega)
      obtain ⟨e1, e2⟩ := any_reb Hn.out.2.2.2.1 (by have := Hn.out; omega) Hn.out.2.1 HN.out.symm Hla.out hs hm
      rw [e1, e2] at this
      refine this.mono fun e w9 hx => ?_
      obtain ⟨A9, c9, g1, g2, g3⟩ := hx
      rw [allD_length HN.out.symm] at g1 g2
      obtain ⟨g9, c9', e9, _⟩ := g2.head (by rw [allD_length HN.out.symm]; omega)
      rw [allD_length HN.out.symm] at e9
      cases e9
      exact ⟨g9, c9, g1, g2, g3⟩
    have Hst6 : Hid (Sub (allD k n a) (allD k n a) ∧ (missL (allD k n a)).length = 0 ∧ Below wm.heap.size wm w6) := ⟨Sub.refl _, missL_full fun t l hl => by rw [allD_row HN.out.symm Hla.out hl]; have := Hn.out; omega, Hb4.out.1.trans (H6.out.bel.mono Hb4.out.1.size)⟩
    clear hra32 hrp2' hgml hb4l hg62
    obtain ⟨W7, hW7⟩ : ∃ W7, W7 = w6.setCell ⟨g6, xn, none⟩ (.slice none 0 0) := ⟨_, rfl⟩
    have HL : Hid (ListR w4 (.slice (some ⟨g6, 0, none⟩) (k + 2) c6') ((ra ++ rp).set xn (.slice none 0 0)) ((allD k n a).set xn []) W7 ∧ Sub (allD k n a) ((allD k n a).set xn []) ∧ (missL ((allD k n a).set xn [])).length ≤ 2) := by
      rw [hW7]
      refine ⟨P3.out, Hst6.out.1.strike xn Hlx.out.2, ?_⟩
      rw [missL_set Hlx.out.2 (by rw [getD_of Hlx.out.1, allD_row HN.out.symm Hla.out Hlx.out.1]; have := Hn.out; omega), Hst6.out.2.1]
      omega
    have HB7 : Hid (Below wm.heap.size wm W7 ∧ True) := by
      rw [hW7]
      exact ⟨Hst6.out.2.2.setCell (p := ⟨g6, xn, none⟩) (Nat.le_trans Hb4.out.1.size (H6.out.head.ge g6 rfl).1) _, trivial⟩
    rw [← hW7]
    clear hW7 p1 p2
    have HR := Lib.hid (HYes.out _ _ _ HL.out.1 HL.out.2.1 HL.out.2.2)
    refine HR.out.mono ?_
    rintro e w9 ⟨g9, c9, rfl, m9, b9⟩
    have Hs0 : Hid (Sp w9 W7.heap.size w9.heap.size g9 (k + 2) c9 (allD k n a) w9 ∧ Below W7.heap.size W7 w9) := ⟨⟨_, m9, rfl, fun t l hl => ⟨l, hl, rfl⟩, Out.refl _ _ _⟩, b9⟩
    clear m9 b9 HR
    go_wp2_with fail
    go_loopw [15] (fun iv wr => ∃ i : Nat, iv = .int .i64 (i : Int) ∧ i ≤ k + 2 ∧ Hid (Sp w9 W7.heap.size w9.heap.size g9 (k + 2) c9 (allD k n a) wr)) (fun iv _ => k + 2 - (intOf iv).toNat)
    case atStart => exact ⟨0, rfl, Nat.zero_le _, Hs0.out.1⟩
    case round =>
      obtain ⟨i, rfl, hiN, hrel⟩ := hrel
      by_cases hlt : i < k + 2
      · have hlt' : (i : Int) < (k : Int) + 2 := by omega
        obtain ⟨l, hx⟩ : ∃ l, (allD k n a)[i]? = some l := ⟨_, List.getElem?_eq_getElem (by rw [allD_length HN.out.symm]; exact hlt)⟩
        have Hx : Hid ((allD k n a)[i]? = some l ∧ n = l.length) := ⟨hx, (allD_row HN.out.symm Hla.out hx).symm⟩
        have Hrel := Lib.hid hrel.out
        clear hx hrel
        obtain ⟨wo, rfl⟩ : ∃ wo : World, wo = wr := ⟨_, rfl⟩
        go_wp2_with fail
        go_loopw [16] (fun jv wz => ∃ j : Nat, jv = .int .i64 (j : Int) ∧ j ≤ n ∧ Hid (Sp w9 W7.heap.size w9.heap.size g9 (k + 2) c9 (allD k n a) wz)) (fun jv _ => n - (intOf jv).toNat)
        case atStart => exact ⟨0, rfl, Nat.zero_le _, Hrel.out⟩
        case round =>
          obtain ⟨j, rfl, hjn, hrel⟩ := hrel
          have hhead : ∃ b c', wr.cell? ⟨g9, i, none⟩ = some (.slice (some ⟨b, 0, none⟩) n c') := by
            obtain ⟨M', h1, h2, h3, h4⟩ := hrel.out
            obtain ⟨l', hl', hll⟩ := h3 i l Hx.out.1
            obtain ⟨b, c', hra, hset⟩ := h1.row hl'
            exact ⟨b, c', by rw [Hx.out.2, ← hll]; exact hra.head⟩
          by_cases hjl : j < n
          · have hjl' : (j : Int) < (n : Int) := by omega
            clear hhead
            obtain ⟨b, c', x, k1, k2, k3, k4, k5, k6⟩ := hrel.out.set Hx.out.1 (by rw [← Hx.out.2]; exact hjl)
            rw [← Hx.out.2] at k1 k2
            have Hn0 := Lib.hid k6
            have k2' : (n : Int) ≤ (c' : Int) := by omega
            have Hn2 : Hid (∀ q (z : Int), 0 ≤ z → z < 256 → Sp w9 W7.heap.size w9.heap.size g9 (k + 2) c9 (allD k n a) ((wr.setCell ⟨b, j, none⟩ (.int .u8 z)).drewN q)) := fun q z z0 z1 => by
              obtain ⟨M', h1, h2, h3, h4⟩ := Hn0.out z z0 z1
              exact ⟨M', h1.drewN q, h2, h3, h4.drewN q⟩
            clear k6 hrel hjl
            go_wp2_with fail
            refine wp_region_still_tail 14 (by kernel_rfl) (by kernel_rfl) ?_
            simp only [List.take_succ_cons, List.take_zero, List.drop_succ_cons, List.drop_zero]
            repeat still_step
            try refine wpStill_nil ?_
            change wpList _ _ _ _ _ wr.drew
            go_wp2_with fail
            go_roundw
            case rel => exact ⟨j + 1, by go_num, by omega, Hn2.out 1 _ (by omega) (by omega)⟩
            case measure => simp [intOf]; omega
          · obtain rfl : j = n := by omega
            obtain ⟨b, c', k1⟩ := hhead
            clear hjl
            go_wp2_with fail
            go_roundw
            case rel => exact ⟨i + 1, by go_num, by omega, hrel.out⟩
            case measure => simp [intOf]; omega
      · obtain rfl : i = k + 2 := by omega
        have hout : Out W7.heap.size w9.heap.size w9 wr := by
          obtain ⟨_, _, _, _, h4⟩ := hrel.out
          exact h4
        have hbz : Below W7.heap.size w9 wr := hout.to_below (fun b hb => .inl (by omega)) Hs0.out.2.size
        have hb7 : Below W7.heap.size W7 wr := Hs0.out.2.trans hbz
        have hbm : Below wm.heap.size wm wr := HB7.out.1.trans (hb7.mono HB7.out.1.size)
        have hbw : Below w.heap.size w wr := H3.out.1.trans ((Hm.out.1.bel.trans (hbm.mono Hm.out.1.bel.size)).mono H3.out.1.size)
        have HSm := Lib.hid (same_any (some ⟨gm, 0, none⟩) (some ⟨ba, oa, none⟩) cm cA a a wr _ (Hm.out.2.below hbm |>.wide hbm.size) ((Ha.out.below hbw).wide hbw.size) (by rw [← HN.out]; omega))
        rw [← HN.out, decide_eq_true rfl] at HSm
        have Hbw := Lib.hid hbw
        clear hlt hrel hout hbz hb7 hbm hbw
        go_wp2_with fail
        refine HSm.out.mono ?_
        rintro e w10 ⟨rfl, q10, hw10⟩
        have Hf : Hid (Below w.heap.size w w10) := by rw [hw10]; exact drewN_below Hbw.out q10
        clear hw10
        go_wp2_with fail
        go_ret
        exact ⟨rfl, Hf.out⟩
end Go.Proofs.Ytonihcgjepfpkaa
