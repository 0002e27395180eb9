/-
  RsAny, walked.
-/
import Derived.Test.YtonihcgjepfpkaaKRs16
namespace Go.Proofs.Ytonihcgjepfpkaa
open Go.RowKit

set_option maxRecDepth 20000
theorem own_cells {w : World} {lo : Nat} {v : Value} {rows : List Value} (h : OwnV w lo 41 v rows) (h0 : 0 < rows.length) : ∃ g c, v = .slice (some ⟨g, 0, none⟩) rows.length c ∧ lo ≤ g ∧ g < w.heap.size ∧ ∀ (i : Nat) (r : Value), rows[i]? = some r → w.cell? ⟨g, i, none⟩ = some r := by
  rcases h.form with ⟨_, hv⟩ | ⟨g, cap, cur, rfl, hb, hc, hn, hm, hl, ht⟩
  · rw [hv] at h0; simp at h0
  · refine ⟨g, cap, rfl, hb, hc.lt, fun i r hr => hc.cell ?_⟩
    have hi := (List.getElem?_eq_some_iff.1 hr).1
    have := congrArg (fun z => z[i]?) ht
    rw [List.getElem?_take_of_lt hi] at this
    rw [this]; exact hr
theorem ListR.of_own {w wr : World} {v : Value} {rows : List Value} {M : Mtx} (h : OwnV wr w.heap.size 41 v rows) (hb : Below w.heap.size w wr) (hl : rows.length = M.length)
    (hr : ∀ (t : Nat) (r : Value) (l : List UInt8), rows[t]? = some r → M[t]? = some l → ∃ A c, r = .slice A l.length c ∧ RB w w.heap.size A l ∧ l.length ≤ c) : ListR w v rows M wr :=
  ⟨h, hl, fun t r l h1 h2 => by
    obtain ⟨A, c, e, h3, h4⟩ := hr t r l h1 h2
    exact ⟨A, c, e, h3.below hb, h4⟩, hb⟩
theorem rows_one {w : World} {B : Nat} {rows : List Value} {M : Mtx} (hl : rows.length = M.length) (hr : ∀ (i : Nat) (r : Value) (l : List UInt8), rows[i]? = some r → M[i]? = some l → ∃ A c, r = .slice A l.length c ∧ RB w B A l ∧ l.length ≤ c) : ∀ u ∈ rows, u.oneCell' = true := fun u hu => by
  obtain ⟨i, hi⟩ := List.getElem?_of_mem hu
  obtain ⟨l, hl2⟩ : ∃ l, M[i]? = some l := ⟨_, List.getElem?_eq_getElem (by rw [← hl]; exact (List.getElem?_eq_some_iff.1 hi).1)⟩
  obtain ⟨A, c, rfl, _⟩ := hr i u l hi hl2
  rfl
theorem rows_append {w' : World} {B : Nat} {r1 r2 : List Value} {M1 M2 : Mtx} (hl1 : r1.length = M1.length) (hB : B ≤ w'.heap.size)
    (h1 : ∀ (i : Nat) (r : Value) (l : List UInt8), r1[i]? = some r → M1[i]? = some l → ∃ A c, r = .slice A l.length c ∧ RB w' B A l ∧ l.length ≤ c)
    (h2 : ∀ (i : Nat) (r : Value) (l : List UInt8), r2[i]? = some r → M2[i]? = some l → ∃ A c, r = .slice A l.length c ∧ RB w' w'.heap.size A l ∧ l.length ≤ c) :
    ∀ (i : Nat) (r : Value) (l : List UInt8), (r1 ++ r2)[i]? = some r → (M1 ++ M2)[i]? = some l → ∃ A c, r = .slice A l.length c ∧ RB w' w'.heap.size A l ∧ l.length ≤ c := fun i r l hr hl => by
  by_cases hi : i < r1.length
  · rw [List.getElem?_append_left hi] at hr
    rw [List.getElem?_append_left (by rw [← hl1]; exact hi)] at hl
    obtain ⟨A, c, e, g1, g2⟩ := h1 i r l hr hl
    exact ⟨A, c, e, g1.wide hB, g2⟩
  · rw [List.getElem?_append_right (by omega)] at hr
    rw [List.getElem?_append_right (by rw [← hl1]; omega), ← hl1] at hl
    exact h2 _ r l hr hl
theorem ListR.rm' {w wr : World} {g n c : Nat} {rows : List Value} {M : Mtx} (h : ListR w (.slice (some ⟨g, 0, none⟩) n c) rows M wr) : RM wr wr.heap.size (some ⟨g, 0, none⟩) M := by
  obtain ⟨A, c', e, _, r⟩ := h.rm
  have e1 := (Value.slice.inj e).1
  rw [← e1] at r
  exact r
theorem Kept.drewN' {K : Nat → Prop} {w w' : World} (h : Kept K w w') (n : Nat) : Kept K w (w'.drewN n) := h.drewN n
set_option maxHeartbeats 8000000 in
theorem rsAny_any (A : Option Addr) (cA Nb : Nat) (a : Mtx) (one two three : Int) (w : World) (ha : RM w w.heap.size A a) (hNa : Nb = a.length) (hla : a.length ≤ 1048576) (hra : ∀ (k : Nat) (l : List UInt8), a[k]? = some l → l.length ≤ 1048576) :
    Calls Try.prog 4 #[.slice A Nb cA, .int .i64 one, .int .i64 two, .int .i64 three] w fun e w' => e = .returned (.bool true) ∧ Below w.heap.size w w' := by
  have Hk := Lib.hid (known6_any w)
  have HFa : Hid (∀ W, Below w.heap.size w W → Calls Try.prog 9 #[.slice A Nb cA] W fun e w' => e = .returned (.bool (fewS a)) ∧ W = w') := fun W hW => by rw [hNa]; exact few6_any A cA a W _ (ha.below hW) hla hra
  have Ha := Lib.hid ha
  have HN := Lib.hid hNa
  have hNa' : (Nb : Int) ≤ 1048576 := by omega
  clear ha hNa hla hra
  go_enter Try.func4, Try.ntmps4
  go_wp2_with fail
  refine Hk.out.mono ?_
  rintro e w1 ⟨rfl, hb1⟩
  have Hb1 := Lib.hid hb1
  have HFa1 := Lib.hid (HFa.out w1 hb1)
  clear hb1 Hk HFa
  by_cases c1 : (Nb : Int) < 1
  · go_wp2_with fail
    go_ret
    exact ⟨rfl, Hb1.out⟩
  by_cases c2 : (32 : Int) < (Nb : Int)
  · go_wp2_with fail
    go_ret
    exact ⟨rfl, Hb1.out⟩
  rcases hfa : fewS a with _ | _
  · rw [hfa] at HFa1
    go_wp2_with fail
    refine HFa1.out.mono ?_
    rintro e w2 ⟨rfl, rfl⟩
    go_wp2_with fail
    go_ret
    exact ⟨rfl, Hb1.out⟩
  rw [hfa] at HFa1
  obtain ⟨fa1, fa2⟩ := few_facts hfa
  obtain ⟨n, hn⟩ : ∃ n, n = (a.headD []).length := ⟨_, rfl⟩
  obtain ⟨ba, oa, rfl, hba⟩ := Ha.out.at_ (by have := HN.out; omega)
  have ha0 := head_get (M := a) (by have := HN.out; omega)
  obtain ⟨A0, c0, q0, _, _⟩ := Ha.out.row ha0
  rw [← hn, Nat.add_zero] at q0
  have hn4 : n ≤ 4000 := by rw [hn]; have := sumS_le ha0; omega
  have Hq0 : Hid (∀ W, Below w.heap.size w W → W.cell? ⟨ba, oa, none⟩ = some (.slice A0 n c0)) := fun W hW => (hW.cell (p := ⟨ba, oa, none⟩) hba).trans q0
  have q1 := Hq0.out w1 Hb1.out
  by_cases hn0 : n = 0
  · subst hn0
    clear q0 hn ha0
    go_wp2_with fail
    refine HFa1.out.mono ?_
    rintro e w2 ⟨rfl, rfl⟩
    go_wp2_with fail
    go_ret
    exact ⟨rfl, Hb1.out⟩
  have c6 : ((n : Int) == 0) = false := by simp; omega
  have Hn : Hid (n = (a.headD []).length ∧ 1 ≤ n ∧ n ≤ 4000 ∧ 1 ≤ Nb ∧ Nb ≤ 32 ∧ ba < w.heap.size ∧ a[0]? = some (a.headD [])) := ⟨hn, by omega, hn4, by omega, by omega, hba, ha0⟩
  have hn' : (n : Int) ≤ 4000 := by omega
  have hN32 : (Nb : Int) ≤ 32 := by omega
  clear q0 hn ha0 hfa fa1 fa2 hn4 hn0 hba c2 hNa'
  go_wp2_with fail
  refine HFa1.out.mono ?_
  rintro e w2 ⟨rfl, rfl⟩
  go_wp2_with fail
  have e1 : decide ((Nb : Int) < 1) = false := by simp; omega
  have e2 : decide ((32 : Int) < (Nb : Int)) = false := by simp; omega
  simp only [e1, e2, Bool.or_false]
  clear e1 e2 q1 HFa1
  go_loopw [10] (fun iv wr => ∃ i q : Nat, iv = .int .i64 (i : Int) ∧ i ≤ Nb ∧ Hid (wr = w1.drewN q ∧ ∀ (t : Nat) (x : List UInt8), t < i → a[t]? = some x → x.length = n)) (fun iv _ => Nb - (intOf iv).toNat)
  case atStart => exact ⟨0, 0, rfl, Nat.zero_le _, by simp [World.drewN], fun t x ht => by omega⟩
  case round =>
    obtain ⟨i, q, rfl, hi, hrel⟩ := hrel
    have Hbe : Hid (Below w.heap.size w wr) := by rw [hrel.out.1]; exact drewN_below Hb1.out q
    by_cases hlt : i < Nb
    · have hlt' : (i : Int) < (Nb : Int) := by omega
      obtain ⟨x, hx⟩ : ∃ x, a[i]? = some x := ⟨_, List.getElem?_eq_getElem (by have := HN.out; omega)⟩
      obtain ⟨Ax, cx, hcx, _, _⟩ := Ha.out.row hx
      have k0 := Hq0.out wr Hbe.out
      have k1 : wr.cell? ⟨ba, oa + i, none⟩ = some (.slice Ax x.length cx) := (Hbe.out.cell (p := ⟨ba, oa + i, none⟩) Hn.out.2.2.2.2.2.1).trans hcx
      by_cases hxn : x.length = n
      case neg =>
        have d1 : ((x.length : Int) != (n : Int)) = true := by simp; omega
        generalize x.length = xl at *
        clear hx hcx hrel hlt hxn
        go_wp2_with fail
        go_quiet (fail)
        go_wp2_with fail
        go_ret
        exact ⟨rfl, drewN_below Hbe.out _⟩
      have Hx : Hid (∀ nq, wr.drewN nq = w1.drewN (q + nq) ∧ ∀ (t : Nat) (x : List UInt8), t < i + 1 → a[t]? = some x → x.length = n) := fun nq => ⟨by rw [hrel.out.1]; simp [World.drewN, Nat.add_assoc], fun t x' ht hx' => by
        by_cases e : t < i
        · exact hrel.out.2 t x' e hx'
        · obtain rfl : t = i := by omega
          rw [hx] at hx'
          cases hx'
          exact hxn⟩
      rw [hxn] at k1
      have d1 : ((n : Int) != (n : Int)) = false := by simp
      clear hx hcx hrel hlt hxn
      go_wp2_with fail
      go_quiet (fail)
      go_wp2_with fail
      go_roundw
      case rel => exact ⟨i + 1, q + nq, by go_num, by omega, Hx.out nq⟩
      case measure => simp [intOf]; omega
    · obtain rfl : i = Nb := by omega
      have hla : ∀ (t : Nat) (l : List UInt8), a[t]? = some l → l.length = n := fun t l hl => hrel.out.2 t l (by have := (List.getElem?_eq_some_iff.1 hl).1; have := HN.out; omega) hl
      have hbe := Hbe.out
      obtain ⟨w3, hw3⟩ : ∃ w3, w3 = wr.alloc (.cells #[.int .i64 (i : Int)] 47) := ⟨_, rfl⟩
      have HNw : Hid (Calls Try.prog 10 #[.int .i64 (i : Int)] wr fun e w' => e = .returned (.tuple #[.pointer (some ⟨wr.heap.size, 0, none⟩), .int .i64 0]) ∧ w' = w3) := by rw [hw3]; exact new_yes i wr (by omega) (by omega)
      have hb3 : Below wr.heap.size wr w3 := by rw [hw3]; exact (Below.refl _ _).alloc (Nat.le_refl _) _
      have hc3 : w3.cell? ⟨wr.heap.size, 0, none⟩ = some (.int .i64 (i : Int)) := by rw [hw3]; exact cell_new _ _ _
      have hs3 : wr.heap.size < w3.heap.size := World.block_lt_of_cell? _ _ hc3
      have hb03 : Below w.heap.size w w3 := hbe.trans (hb3.mono hbe.size)
      have HPar : Hid (Calls Try.prog 12 #[.pointer (some ⟨wr.heap.size, 0, none⟩), .slice (some ⟨ba, oa, none⟩) i cA] w3 fun e w' => ∃ A8 c8, e = .returned (.tuple #[.slice A8 2 c8, .int .i64 0]) ∧ RM w' w'.heap.size A8 (linM (pairsM i) a n) ∧ Below w3.heap.size w3 w') := by
        have := parity_any wr.heap.size i i cA (some ⟨ba, oa, none⟩) a w3 hc3 ((Ha.out.below hb03).wide hb03.size) HN.out (by omega) (by omega) (by omega) (fun t l hl => by rw [hla t l hl]; have := Hn.out; omega)
        have hp := par_yes HN.out.symm Hn.out.2.1 hla
        have e1 : parL i a = linM (pairsM i) a n := by unfold parL; rw [if_pos hp, ← Hn.out.1]
        have e2 : parE i a = 0 := by unfold parE; rw [if_pos hp]
        rw [e1, e2] at this
        refine this.mono fun e w' hx => ?_
        obtain ⟨A8, c8, g1, g2, _, g3⟩ := hx.rm
        exact ⟨A8, c8, g1, g2, g3⟩
      have H3 : Hid (Below w.heap.size w w3 ∧ w3.cell? ⟨wr.heap.size, 0, none⟩ = some (.int .i64 (i : Int)) ∧ wr.heap.size < w3.heap.size) := ⟨hb03, hc3, hs3⟩
      have Hla := Lib.hid hla
      clear hla hbe hw3 hb3 hc3 hs3 hb03 hlt hrel
      go_wp2_with fail
      refine HNw.out.mono ?_
      rintro e w' ⟨rfl, rfl⟩
      go_wp2_with fail
      refine HPar.out.mono ?_
      rintro e w4 ⟨A4, c4, rfl, r4, b4⟩
      have Hb4 : Hid (Below w.heap.size w w4 ∧ Below w'.heap.size w' w4) := ⟨H3.out.1.trans (b4.mono H3.out.1.size), b4⟩
      obtain ⟨b4', o4, rfl, _⟩ := r4.at_ (by simp [linM, pairsM])
      obtain ⟨ra, hra1, hra2, hra3⟩ := rm_rows ((Ha.out.below Hb4.out.1))
      obtain ⟨rp, hrp1, hrp2, hrp3⟩ := rm_rows r4
      have Hra : Hid (i = ra.length ∧ 2 = rp.length ∧ (∀ u ∈ ra, u.oneCell' = true) ∧ (∀ u ∈ rp, u.oneCell' = true) ∧ (∀ (j : Nat) (u : Value), ra[j]? = some u → w4.cell? ⟨ba, oa + j, none⟩ = some u) ∧ (∀ (j : Nat) (u : Value), rp[j]? = some u → w4.cell? ⟨b4', o4 + j, none⟩ = some u) ∧
          ∀ (t : Nat) (r : Value) (l : List UInt8), (ra ++ rp)[t]? = some r → (allD i n a)[t]? = some l → ∃ A c, r = .slice A l.length c ∧ RB w4 w4.heap.size A l ∧ l.length ≤ c) := ⟨by rw [hra1]; exact HN.out, by rw [hrp1]; simp [linM, pairsM], rows_one hra1 hra3, rows_one hrp1 hrp3, hra2, hrp2, rows_append hra1 Hb4.out.1.size hra3 hrp3⟩
      have hra32 : ra.length ≤ 32 := by have := Hra.out.1; omega
      have hrp2' : rp.length = 2 := Hra.out.2.1.symm
      have hbal : ba < w4.heap.size := by have := Hb4.out.1.size; have := Hn.out.2.2.2.2.2.1; omega
      have hb4l : b4' < w4.heap.size := by
        obtain ⟨u, hu⟩ : ∃ u, rp[0]? = some u := ⟨_, List.getElem?_eq_getElem (by omega)⟩
        have := World.block_lt_of_cell? _ _ (hrp2 0 u hu)
        exact this
      clear r4 b4 hra1 hra2 hra3 hrp1 hrp2 hrp3 HPar HNw
      go_wp2_with (first
        | (at_builtin; (refine app_many rfl (.tmp 77) (.tmp 78) 22 41 rfl Try.underlying22 (.slice none 0 0) 24 info_row rfl w4.heap.size _ [] rfl (own_made w4 _ (Nat.le_refl _)) ⟨ba, oa, none⟩ i cA ra rfl Hra.out.1 (fun j u hj => by rw [add_flat]; exact (World.cell?_alloc_lt w4 _ ⟨ba, oa + j, none⟩ hbal).trans (Hra.out.2.2.2.2.1 j u hj)) Hra.out.2.2.1 (by simp; omega) (by simp; omega) (by simp) ?_); intro v5 w5 hown hg _; have H5 : Hid (OwnV w5 w4.heap.size 41 v5 ra ∧ Below w4.heap.size w4 w5) := ⟨by simpa using hown, ((Below.refl _ _).alloc (Nat.le_refl _) _).grown hg (by simp) (fun g hg => by cases hg; exact Nat.le_refl _)⟩; clear hown hg)
        | (at_builtin; (refine app_many rfl (.tmp 79) (.tmp 80) 22 41 rfl Try.underlying22 (.slice none 0 0) 24 info_row rfl w4.heap.size _ ra rfl H5.out.1 ⟨b4', o4, none⟩ 2 c4 rp rfl Hra.out.2.1 (fun j u hj => by rw [add_flat]; exact (H5.out.2.cell (p := ⟨b4', o4 + j, none⟩) hb4l).trans (Hra.out.2.2.2.2.2.1 j u hj)) Hra.out.2.2.2.1 (by omega) (by omega) H5.out.2.size ?_); intro v6 w6 hown hg _; have H6 : Hid (ListR w4 v6 (ra ++ rp) (allD i n a) w6) := ListR.of_own hown (H5.out.2.grown hg H5.out.2.size (fun g hg => (H5.out.1.ge g hg).1)) (by rw [List.length_append, allD_length HN.out.symm]; have := Hra.out; omega) Hra.out.2.2.2.2.2.2; clear hown hg; obtain ⟨g6, c6', e6, hg61, hg62, hg63⟩ := own_cells H6.out.head (by rw [List.length_append]; have := Hra.out; omega); have e62 : (ra ++ rp).length = i + 2 := (by rw [List.length_append]; have := Hra.out; omega); rw [e62] at e6; subst e6; have H62 : Hid (w4.heap.size ≤ g6 ∧ g6 < w6.heap.size ∧ (∀ (j : Nat) (u : Value), (ra ++ rp)[j]? = some u → w6.cell? ⟨g6, j, none⟩ = some u) ∧ i + 2 = (ra ++ rp).length ∧ ∀ u ∈ ra ++ rp, u.oneCell' = true) := ⟨hg61, hg62, hg63, e62.symm, fun u hu => (by rcases List.mem_append.1 hu with h | h; exact Hra.out.2.2.1 u h; exact Hra.out.2.2.2.1 u h)⟩; clear hg61 hg62 hg63 e62)
        | (at_builtin; go_must (refine app_many rfl (.tmp 82) (.tmp 83) 22 41 rfl Try.underlying22 (.slice none 0 0) 24 info_row rfl w6.heap.size _ [] rfl (own_made w6 _ (Nat.le_refl _)) ⟨g6, 0, none⟩ (i + 2) c6' (ra ++ rp) rfl H62.out.2.2.2.1 (fun j u hj => by rw [add_flat, Nat.zero_add]; exact (World.cell?_alloc_lt w6 _ ⟨g6, j, none⟩ H62.out.2.1).trans (H62.out.2.2.1 j u hj)) H62.out.2.2.2.2 (by have := H62.out.2.2.2.1; simp at this ⊢; omega) (by have := H62.out.2.2.2.1; simp at this ⊢; omega) (by simp) ?_); intro v7 w7 hown hg _; have H7 : Hid (ListR w6 v7 (ra ++ rp) (allD i n a) w7) := ListR.of_own (by simpa using hown) (((Below.refl _ _).alloc (Nat.le_refl _) _).grown hg (by simp) (fun g hg => by cases hg; exact Nat.le_refl _)) H6.out.len (fun t r l h1 h2 => (by obtain ⟨A, c, e, g1, g2⟩ := H6.out.rows t r l h1 h2; exact ⟨A, c, e, g1.wide H6.out.bel.size, g2⟩)); clear hown hg; obtain ⟨g7, c7, e7, hg71, hg72, hg73⟩ := own_cells H7.out.head (by rw [← H62.out.2.2.2.1]; omega); rw [← H62.out.2.2.2.1] at e7; subst e7; have H72 : Hid (w6.heap.size ≤ g7 ∧ g7 < w7.heap.size) := ⟨hg71, hg72⟩; clear hg71 hg72 hg73))
      have HReb : Hid (∀ (rows : List Value) (S : Mtx) (W : World), ListR w6 (.slice (some ⟨g7, 0, none⟩) (i + 2) c7) rows S W → Sub (allD i n a) S → Calls Try.prog 16 #[.pointer (some ⟨wr.heap.size, 0, none⟩), .slice (some ⟨g7, 0, none⟩) (i + 2) c7] W (TellsO W (rebL i S) (rebE i S))) := fun rows S W hL hs => by
        have hb36 : Below w'.heap.size w' W := Hb4.out.2.trans ((H6.out.bel.trans (hL.bel.mono H6.out.bel.size)).mono Hb4.out.2.size)
        refine rebuild_any wr.heap.size i (i + 2) c7 (some ⟨g7, 0, none⟩) S W ((hb36.cell (p := ⟨wr.heap.size, 0, none⟩) H3.out.2.2).trans H3.out.2.1) hL.rm' (by rw [hs.1, allD_length HN.out.symm]) (by have := Hn.out; omega) Hn.out.2.2.2.1 (by have := Hn.out; omega) (fun t l hl => ?_)
        rcases (sub_fit HN.out.symm Hla.out hs).2 t l hl with h | h
        · omega
        · have := Hn.out; omega
      obtain ⟨W8, hW8⟩ : ∃ W8, W8 = w7.alloc (.cells #[.int .i64 one, .int .i64 two, .int .i64 three] 3) := ⟨_, rfl⟩
      have HG8 : Hid (Cells W8 w7.heap.size 3 [.int .i64 one, .int .i64 two, .int .i64 three] ∧ Below w7.heap.size w7 W8) := by
        rw [hW8]
        exact ⟨Cells.new w7 _ _, (Below.refl _ _).alloc (Nat.le_refl _) _⟩
      rw [← hW8]
      clear hW8
      have hk1 : 1 ≤ i := Hn.out.2.2.2.1
      have hk2 : i ≤ 253 := by have := Hn.out; omega
      have HYes : Hid (∀ (rows : List Value) (S : Mtx) (W : World), ListR w6 (.slice (some ⟨g7, 0, none⟩) (i + 2) c7) rows S W → Sub (allD i n a) S → (missL S).length ≤ 2 → Calls Try.prog 16 #[.pointer (some ⟨wr.heap.size, 0, none⟩), .slice (some ⟨g7, 0, none⟩) (i + 2) c7] W fun e w9 => ∃ A9 c9, e = .returned (.tuple #[.slice A9 (i + 2) c9, .int .i64 0]) ∧ RM w9 w9.heap.size A9 (allD i n a) ∧ Below W.heap.size W w9) := fun rows S W hL hs hm => by
        have := HReb.out rows S W hL hs
        obtain ⟨e1, e2⟩ := any_reb hk1 hk2 Hn.out.2.1 HN.out.symm Hla.out hs hm
        rw [e1, e2] at this
        refine this.mono fun e w9 hx => ?_
        obtain ⟨A9, c9, g1, g2, _, g3⟩ := hx.rm
        rw [allD_length HN.out.symm] at g1
        exact ⟨A9, c9, g1, g2, g3⟩
      have HNo : Hid (∀ (rows : List Value) (S : Mtx) (W : World), ListR w6 (.slice (some ⟨g7, 0, none⟩) (i + 2) c7) rows S W → Sub (allD i n a) S → 2 < (missL S).length → Calls Try.prog 16 #[.pointer (some ⟨wr.heap.size, 0, none⟩), .slice (some ⟨g7, 0, none⟩) (i + 2) c7] W fun e w9 => ∃ A9 c9, e = .returned (.tuple #[.slice A9 0 c9, .int .i64 7]) ∧ Below W.heap.size W w9) := fun rows S W hL hs hm => by
        have := HReb.out rows S W hL hs
        obtain ⟨e1, e2⟩ := any_lost HN.out.symm Hla.out hs hm
        rw [e1, e2] at this
        refine this.mono fun e w9 hx => ?_
        obtain ⟨A9, c9, g1, _, _, g3⟩ := hx.rm
        exact ⟨A9, c9, g1, g3⟩
      have HSame : Hid (∀ (A9 : Option Addr) (c9 : Nat) (W : World), RM W W.heap.size A9 (allD i n a) → Below w6.heap.size w6 W → Calls Try.prog 15 #[.slice A9 (i + 2) c9, .slice (some ⟨g6, 0, none⟩) (i + 2) c6'] W fun e w' => e = .returned (.bool true) ∧ ∃ q, w' = W.drewN q) := fun A9 c9 W hm hb => by
        have := same_any A9 (some ⟨g6, 0, none⟩) c9 c6' (allD i n a) (allD i n a) W _ hm (((H6.out.rm').below hb).wide hb.size) (by rw [allD_length HN.out.symm]; omega)
        rw [allD_length HN.out.symm, decide_eq_true rfl] at this
        exact this
      have HgA : Hid (∀ (S : Mtx), Sub (allD i n a) S → ∀ (x : Nat) (l : List UInt8), S[x]? = some l → l.length = 0 ∨ l.length = n) := fun S hs x l hl => (sub_fit HN.out.symm Hla.out hs).2 x l hl
      have Hst : Hid (ListR w6 (.slice (some ⟨g7, 0, none⟩) (i + 2) c7) (ra ++ rp) (allD i n a) W8 ∧ Kept (fun b => b ≠ g7) W8 W8 ∧ Sub (allD i n a) (allD i n a) ∧ (missL (allD i n a)).length = 0) := ⟨H7.out.below HG8.out.2, Kept.refl _ _, Sub.refl _, missL_full fun t l hl => by rw [allD_row HN.out.symm Hla.out hl]; have := Hn.out; omega⟩
      have hi2 : (((i : Int)) + 2) = (((i + 2 : Nat)) : Int) := by omega
      clear HReb hk1 hk2 hra32 hrp2' hbal hb4l hi2
      go_loopw [16, 18] (fun nv tv wz => ∃ (t nn : Nat) (rows : List Value) (S : Mtx), nv = .int .i64 (nn : Int) ∧ tv = .int .i64 (t : Int) ∧ t ≤ 3 ∧ nn ≤ t ∧ Hid (ListR w6 (.slice (some ⟨g7, 0, none⟩) (i + 2) c7) rows S wz ∧ Kept (fun b => b ≠ g7) W8 wz ∧ Sub (allD i n a) S ∧ (missL S).length = nn)) (fun _ tv _ => 3 - (intOf tv).toNat)
      case atStart => exact ⟨0, 0, _, _, rfl, rfl, by omega, by omega, Hst.out⟩
      case round =>
        obtain ⟨t, nn, rows, S, rfl, rfl, ht, hnn, hrel⟩ := hrel
        by_cases htl : t < 3
        · have htl' : (t : Int) < 3 := by omega
          have hnn3 : (nn : Int) ≤ 3 := by omega
          obtain ⟨x, hx⟩ : ∃ x : Int, [Value.int .i64 one, .int .i64 two, .int .i64 three][t]? = some (.int .i64 x) := by
            match t, htl with
            | 0, _ => exact ⟨one, rfl⟩
            | 1, _ => exact ⟨two, rfl⟩
            | 2, _ => exact ⟨three, rfl⟩
          have k1 : wr.cell? ⟨w7.heap.size, t, none⟩ = some (.int .i64 x) := (World.cell?_of_block (w := W8) (hrel.out.2.1.block w7.heap.size HG8.out.1.lt (by have := H72.out; omega))).trans (HG8.out.1.cell hx)
          clear hx
          have HL := Lib.hid hrel.out
          clear hrel
          by_cases hx0 : x < 0
          · have d0 : decide (0 ≤ x) = false := by simp; omega
            by_cases h2 : nn ≤ 2
            · have h2' : (((nn : Nat)) : Int) ≤ 2 := by omega
              have h2'' : ¬ (2 : Int) < (((nn : Nat)) : Int) := by omega
              have HR := Lib.hid (HYes.out _ _ _ HL.out.1 HL.out.2.2.1 (by rw [HL.out.2.2.2]; exact h2))
              clear h2
              try simp only [Int.natCast_add, Int.cast_ofNat_Int] at h2' h2''
              go_wp2_with fail
              refine HR.out.mono ?_
              rintro e w9 ⟨A9, c9, rfl, r9, b9⟩
              have HL9 : Hid (ListR w6 (.slice (some ⟨g7, 0, none⟩) (i + 2) c7) rows S w9 ∧ Kept (fun b => b ≠ g7) W8 w9 ∧ Sub (allD i n a) S ∧ (missL S).length = nn) := ⟨HL.out.1.below b9, HL.out.2.1.below b9, HL.out.2.2⟩
              have HSm := Lib.hid (HSame.out A9 c9 w9 r9 HL9.out.1.bel)
              clear r9 b9 HR HL
              go_wp2_with fail
              refine HSm.out.mono ?_
              rintro e w10 ⟨rfl, q, hw⟩
              have HLA : Hid (ListR w6 (.slice (some ⟨g7, 0, none⟩) (i + 2) c7) rows S w10 ∧ Kept (fun b => b ≠ g7) W8 w10 ∧ Sub (allD i n a) S ∧ (missL S).length = nn) := by
                rw [hw]
                exact ⟨HL9.out.1.drewN q, HL9.out.2.1.drewN q, HL9.out.2.2⟩
              clear hw HSm HL9
              go_wp2_with fail
              go_roundw
              case rel => exact ⟨t + 1, nn, _, S, by go_num, by go_num, by omega, by omega, HLA.out⟩
              case measure => simp [intOf]; omega
            · have h3 : (2 : Int) < (((nn : Nat)) : Int) := by omega
              have h3' : decide ((((nn : Nat)) : Int) ≤ 2) = false := by simp; omega
              have HR := Lib.hid (HNo.out _ _ _ HL.out.1 HL.out.2.2.1 (by rw [HL.out.2.2.2]; omega))
              clear h2
              try simp only [Int.natCast_add, Int.cast_ofNat_Int] at h3 h3'
              go_wp2_with fail
              refine HR.out.mono ?_
              rintro e w9 ⟨A9, c9, rfl, b9⟩
              have HL9 : Hid (ListR w6 (.slice (some ⟨g7, 0, none⟩) (i + 2) c7) rows S w9 ∧ Kept (fun b => b ≠ g7) W8 w9 ∧ Sub (allD i n a) S ∧ (missL S).length = nn) := ⟨HL.out.1.below b9, HL.out.2.1.below b9, HL.out.2.2⟩
              clear b9 HR HL
              go_wp2_with fail
              go_roundw
              case rel => exact ⟨t + 1, nn, _, S, by go_num, by go_num, by omega, by omega, HL9.out⟩
              case measure => simp [intOf]; omega
          have hx1 : 0 ≤ x := by omega
          by_cases hx2 : (i : Int) + 2 ≤ x
          · have d0 : decide (x < (i : Int) + 2) = false := by simp; omega
            by_cases h2 : nn ≤ 2
            · have h2' : (((nn : Nat)) : Int) ≤ 2 := by omega
              have h2'' : ¬ (2 : Int) < (((nn : Nat)) : Int) := by omega
              have HR := Lib.hid (HYes.out _ _ _ HL.out.1 HL.out.2.2.1 (by rw [HL.out.2.2.2]; exact h2))
              clear h2
              try simp only [Int.natCast_add, Int.cast_ofNat_Int] at h2' h2''
              go_wp2_with fail
              refine HR.out.mono ?_
              rintro e w9 ⟨A9, c9, rfl, r9, b9⟩
              have HL9 : Hid (ListR w6 (.slice (some ⟨g7, 0, none⟩) (i + 2) c7) rows S w9 ∧ Kept (fun b => b ≠ g7) W8 w9 ∧ Sub (allD i n a) S ∧ (missL S).length = nn) := ⟨HL.out.1.below b9, HL.out.2.1.below b9, HL.out.2.2⟩
              have HSm := Lib.hid (HSame.out A9 c9 w9 r9 HL9.out.1.bel)
              clear r9 b9 HR HL
              go_wp2_with fail
              refine HSm.out.mono ?_
              rintro e w10 ⟨rfl, q, hw⟩
              have HLA : Hid (ListR w6 (.slice (some ⟨g7, 0, none⟩) (i + 2) c7) rows S w10 ∧ Kept (fun b => b ≠ g7) W8 w10 ∧ Sub (allD i n a) S ∧ (missL S).length = nn) := by
                rw [hw]
                exact ⟨HL9.out.1.drewN q, HL9.out.2.1.drewN q, HL9.out.2.2⟩
              clear hw HSm HL9
              go_wp2_with fail
              go_roundw
              case rel => exact ⟨t + 1, nn, _, S, by go_num, by go_num, by omega, by omega, HLA.out⟩
              case measure => simp [intOf]; omega
            · have h3 : (2 : Int) < (((nn : Nat)) : Int) := by omega
              have h3' : decide ((((nn : Nat)) : Int) ≤ 2) = false := by simp; omega
              have HR := Lib.hid (HNo.out _ _ _ HL.out.1 HL.out.2.2.1 (by rw [HL.out.2.2.2]; omega))
              clear h2
              try simp only [Int.natCast_add, Int.cast_ofNat_Int] at h3 h3'
              go_wp2_with fail
              refine HR.out.mono ?_
              rintro e w9 ⟨A9, c9, rfl, b9⟩
              have HL9 : Hid (ListR w6 (.slice (some ⟨g7, 0, none⟩) (i + 2) c7) rows S w9 ∧ Kept (fun b => b ≠ g7) W8 w9 ∧ Sub (allD i n a) S ∧ (missL S).length = nn) := ⟨HL.out.1.below b9, HL.out.2.1.below b9, HL.out.2.2⟩
              clear b9 HR HL
              go_wp2_with fail
              go_roundw
              case rel => exact ⟨t + 1, nn, _, S, by go_num, by go_num, by omega, by omega, HL9.out⟩
              case measure => simp [intOf]; omega
          obtain ⟨xn, rfl⟩ : ∃ xn : Nat, x = (xn : Int) := ⟨x.toNat, by omega⟩
          have hxi : xn < i + 2 := by omega
          have hSl : S.length = i + 2 := by rw [HL.out.2.2.1.1, allD_length HN.out.symm]
          obtain ⟨l, hl⟩ : ∃ l, S[xn]? = some l := ⟨_, List.getElem?_eq_getElem (by omega)⟩
          obtain ⟨Al, cl, hcl, _, _⟩ := HL.out.1.rm'.row hl
          rw [Nat.zero_add] at hcl
          have hln := HgA.out S HL.out.2.2.1 xn l hl
          have hx3 : (xn : Int) < (i : Int) + 2 := by omega
          by_cases hl0 : l.length = 0
          · rw [hl0] at hcl
            clear hl hl0 hln hSl hxi hx0 hx1 hx2
            by_cases h2 : nn ≤ 2
            · have h2' : (((nn : Nat)) : Int) ≤ 2 := by omega
              have h2'' : ¬ (2 : Int) < (((nn : Nat)) : Int) := by omega
              have HR := Lib.hid (HYes.out _ _ _ HL.out.1 HL.out.2.2.1 (by rw [HL.out.2.2.2]; exact h2))
              clear h2
              try simp only [Int.natCast_add, Int.cast_ofNat_Int] at h2' h2''
              go_wp2_with fail
              refine HR.out.mono ?_
              rintro e w9 ⟨A9, c9, rfl, r9, b9⟩
              have HL9 : Hid (ListR w6 (.slice (some ⟨g7, 0, none⟩) (i + 2) c7) rows S w9 ∧ Kept (fun b => b ≠ g7) W8 w9 ∧ Sub (allD i n a) S ∧ (missL S).length = nn) := ⟨HL.out.1.below b9, HL.out.2.1.below b9, HL.out.2.2⟩
              have HSm := Lib.hid (HSame.out A9 c9 w9 r9 HL9.out.1.bel)
              clear r9 b9 HR HL
              go_wp2_with fail
              refine HSm.out.mono ?_
              rintro e w10 ⟨rfl, q, hw⟩
              have HLA : Hid (ListR w6 (.slice (some ⟨g7, 0, none⟩) (i + 2) c7) rows S w10 ∧ Kept (fun b => b ≠ g7) W8 w10 ∧ Sub (allD i n a) S ∧ (missL S).length = nn) := by
                rw [hw]
                exact ⟨HL9.out.1.drewN q, HL9.out.2.1.drewN q, HL9.out.2.2⟩
              clear hw HSm HL9
              go_wp2_with fail
              go_roundw
              case rel => exact ⟨t + 1, nn, _, S, by go_num, by go_num, by omega, by omega, HLA.out⟩
              case measure => simp [intOf]; omega
            · have h3 : (2 : Int) < (((nn : Nat)) : Int) := by omega
              have h3' : decide ((((nn : Nat)) : Int) ≤ 2) = false := by simp; omega
              have HR := Lib.hid (HNo.out _ _ _ HL.out.1 HL.out.2.2.1 (by rw [HL.out.2.2.2]; omega))
              clear h2
              try simp only [Int.natCast_add, Int.cast_ofNat_Int] at h3 h3'
              go_wp2_with fail
              refine HR.out.mono ?_
              rintro e w9 ⟨A9, c9, rfl, b9⟩
              have HL9 : Hid (ListR w6 (.slice (some ⟨g7, 0, none⟩) (i + 2) c7) rows S w9 ∧ Kept (fun b => b ≠ g7) W8 w9 ∧ Sub (allD i n a) S ∧ (missL S).length = nn) := ⟨HL.out.1.below b9, HL.out.2.1.below b9, HL.out.2.2⟩
              clear b9 HR HL
              go_wp2_with fail
              go_roundw
              case rel => exact ⟨t + 1, nn, _, S, by go_num, by go_num, by omega, by omega, HL9.out⟩
              case measure => simp [intOf]; omega
          have hln2 : l.length = n := by omega
          rw [hln2] at hcl
          have hn0 : (0 : Int) < (n : Int) := by have := Hn.out; omega
          obtain ⟨⟨u, p1⟩, p2, p3⟩ := HL.out.1.set (i := xn) (by omega)
          have HL2 : Hid (ListR w6 (.slice (some ⟨g7, 0, none⟩) (i + 2) c7) (rows.set xn (.slice none 0 0)) (S.set xn []) (wr.setCell ⟨g7, xn, none⟩ (.slice none 0 0)) ∧ Kept (fun b => b ≠ g7) W8 (wr.setCell ⟨g7, xn, none⟩ (.slice none 0 0)) ∧ Sub (allD i n a) (S.set xn []) ∧ (missL (S.set xn [])).length = nn + 1) := ⟨p3, HL.out.2.1.setCell (p := ⟨g7, xn, none⟩) (fun e => e rfl) _, HL.out.2.2.1.strike xn (by rw [allD_length HN.out.symm]; exact hxi), by rw [missL_set (by omega) (by rw [getD_of hl]; have := Hn.out; omega), HL.out.2.2.2]⟩
          clear hl hl0 hln hln2 hSl hxi hx0 hx1 hx2 p3 HL
          have HL := HL2
          clear HL2
          by_cases h2 : nn + 1 ≤ 2
          · have h2' : (((nn + 1 : Nat)) : Int) ≤ 2 := by omega
            have h2'' : ¬ (2 : Int) < (((nn + 1 : Nat)) : Int) := by omega
            have HR := Lib.hid (HYes.out _ _ _ HL.out.1 HL.out.2.2.1 (by rw [HL.out.2.2.2]; exact h2))
            clear h2
            try simp only [Int.natCast_add, Int.cast_ofNat_Int] at h2' h2''
            go_wp2_with fail
            refine HR.out.mono ?_
            rintro e w9 ⟨A9, c9, rfl, r9, b9⟩
            have HL9 : Hid (ListR w6 (.slice (some ⟨g7, 0, none⟩) (i + 2) c7) (rows.set xn (.slice none 0 0)) (S.set xn []) w9 ∧ Kept (fun b => b ≠ g7) W8 w9 ∧ Sub (allD i n a) (S.set xn []) ∧ (missL (S.set xn [])).length = nn + 1) := ⟨HL.out.1.below b9, HL.out.2.1.below b9, HL.out.2.2⟩
            have HSm := Lib.hid (HSame.out A9 c9 w9 r9 HL9.out.1.bel)
            clear r9 b9 HR HL
            go_wp2_with fail
            refine HSm.out.mono ?_
            rintro e w10 ⟨rfl, q, hw⟩
            have HLA : Hid (ListR w6 (.slice (some ⟨g7, 0, none⟩) (i + 2) c7) (rows.set xn (.slice none 0 0)) (S.set xn []) w10 ∧ Kept (fun b => b ≠ g7) W8 w10 ∧ Sub (allD i n a) (S.set xn []) ∧ (missL (S.set xn [])).length = nn + 1) := by
              rw [hw]
              exact ⟨HL9.out.1.drewN q, HL9.out.2.1.drewN q, HL9.out.2.2⟩
            clear hw HSm HL9
            go_wp2_with fail
            go_roundw
            case rel => exact ⟨t + 1, nn + 1, _, (S.set xn []), by go_num, by go_num, by omega, by omega, HLA.out⟩
            case measure => simp [intOf]; omega
          · have h3 : (2 : Int) < (((nn + 1 : Nat)) : Int) := by omega
            have h3' : decide ((((nn + 1 : Nat)) : Int) ≤ 2) = false := by simp; omega
            have HR := Lib.hid (HNo.out _ _ _ HL.out.1 HL.out.2.2.1 (by rw [HL.out.2.2.2]; omega))
            clear h2
            try simp only [Int.natCast_add, Int.cast_ofNat_Int] at h3 h3'
            go_wp2_with fail
            refine HR.out.mono ?_
            rintro e w9 ⟨A9, c9, rfl, b9⟩
            have HL9 : Hid (ListR w6 (.slice (some ⟨g7, 0, none⟩) (i + 2) c7) (rows.set xn (.slice none 0 0)) (S.set xn []) w9 ∧ Kept (fun b => b ≠ g7) W8 w9 ∧ Sub (allD i n a) (S.set xn []) ∧ (missL (S.set xn [])).length = nn + 1) := ⟨HL.out.1.below b9, HL.out.2.1.below b9, HL.out.2.2⟩
            clear b9 HR HL
            go_wp2_with fail
            go_roundw
            case rel => exact ⟨t + 1, nn + 1, _, (S.set xn []), by go_num, by go_num, by omega, by omega, HL9.out⟩
            case measure => simp [intOf]; omega
        · obtain rfl : t = 3 := by omega
          have hbe : Below w.heap.size w wr := Hb4.out.1.trans ((H6.out.bel.trans (hrel.out.1.bel.mono H6.out.bel.size)).mono Hb4.out.1.size)
          have Hbe3 := Lib.hid hbe
          clear hbe hrel htl
          go_wp2_with fail
          go_ret
          exact ⟨rfl, Hbe3.out⟩
end Go.Proofs.Ytonihcgjepfpkaa
