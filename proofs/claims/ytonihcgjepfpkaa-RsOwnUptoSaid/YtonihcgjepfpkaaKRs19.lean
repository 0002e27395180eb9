/-
  RsAny, walked.
-/
import Derived.Test.YtonihcgjepfpkaaKRs16
import Derived.Test.YtonihcgjepfpkaaKRs12
namespace Go.Proofs.Ytonihcgjepfpkaa
open Go.RowKit

set_option maxRecDepth 20000
theorem own_cells {w : World} {lo : Nat} {v : Value} {rows : List Value} (h : OwnV w lo 41 v rows) (h0 : 0 < rows.length) : ∃ g c, v = .slice (some ⟨g, 0, none⟩) rows.length c ∧ lo ≤ g ∧ g < w.heap.size ∧ ∀ (i : Nat) (r : Value), rows[i]? = some r → w.cell? ⟨g, i, none⟩ = some r := by
  rcases h.form with ⟨_, hv⟩ | ⟨g, cap, cur, rfl, hb, hc, hn, hm, hl, ht⟩
  · rw [hv] at h0; simp at h0
  · refine ⟨g, cap, rfl, hb, hc.lt, fun i r hr => hc.cell ?_⟩
    have hi := (List.getElem?_eq_some_iff.1 hr).1
    have := congrArg (fun z => z[i]?) ht
    rw [List.getElem?_take_of_lt hi] at this
    rw [this]; exact hr
theorem ListR.of_own {w wr : World} {v : Value} {rows : List Value} {M : Mtx} (h : OwnV wr w.heap.size 41 v rows) (hb : Below w.heap.size w wr) (hl : rows.length = M.length)
    (hr : ∀ (t : Nat) (r : Value) (l : List UInt8), rows[t]? = some r → M[t]? = some l → ∃ A c, r = .slice A l.length c ∧ RB w w.heap.size A l ∧ l.length ≤ c) : ListR w v rows M wr :=
  ⟨h, hl, fun t r l h1 h2 => by
    obtain ⟨A, c, e, h3, h4⟩ := hr t r l h1 h2
    exact ⟨A, c, e, h3.below hb, h4⟩, hb⟩
theorem rows_one {w : World} {B : Nat} {rows : List Value} {M : Mtx} (hl : rows.length = M.length) (hr : ∀ (i : Nat) (r : Value) (l : List UInt8), rows[i]? = some r → M[i]? = some l → ∃ A c, r = .slice A l.length c ∧ RB w B A l ∧ l.length ≤ c) : ∀ u ∈ rows, u.oneCell' = true := fun u hu => by
  obtain ⟨i, hi⟩ := List.getElem?_of_mem hu
  obtain ⟨l, hl2⟩ : ∃ l, M[i]? = some l := ⟨_, List.getElem?_eq_getElem (by rw [← hl]; exact (List.getElem?_eq_some_iff.1 hi).1)⟩
  obtain ⟨A, c, rfl, _⟩ := hr i u l hi hl2
  rfl
theorem rows_append {w' : World} {B : Nat} {r1 r2 : List Value} {M1 M2 : Mtx} (hl1 : r1.length = M1.length) (hB : B ≤ w'.heap.size)
    (h1 : ∀ (i : Nat) (r : Value) (l : List UInt8), r1[i]? = some r → M1[i]? = some l → ∃ A c, r = .slice A l.length c ∧ RB w' B A l ∧ l.length ≤ c)
    (h2 : ∀ (i : Nat) (r : Value) (l : List UInt8), r2[i]? = some r → M2[i]? = some l → ∃ A c, r = .slice A l.length c ∧ RB w' w'.heap.size A l ∧ l.length ≤ c) :
    ∀ (i : Nat) (r : Value) (l : List UInt8), (r1 ++ r2)[i]? = some r → (M1 ++ M2)[i]? = some l → ∃ A c, r = .slice A l.length c ∧ RB w' w'.heap.size A l ∧ l.length ≤ c := fun i r l hr hl => by
  by_cases hi : i < r1.length
  · rw [List.getElem?_append_left hi] at hr
    rw [List.getElem?_append_left (by rw [← hl1]; exact hi)] at hl
    obtain ⟨A, c, e, g1, g2⟩ := h1 i r l hr hl
    exact ⟨A, c, e, g1.wide hB, g2⟩
  · rw [List.getElem?_append_right (by omega)] at hr
    rw [List.getElem?_append_right (by rw [← hl1]; omega), ← hl1] at hl
    exact h2 _ r l hr hl
theorem ListR.rm' {w wr : World} {g n c : Nat} {rows : List Value} {M : Mtx} (h : ListR w (.slice (some ⟨g, 0, none⟩) n c) rows M wr) : RM wr wr.heap.size (some ⟨g, 0, none⟩) M := by
  obtain ⟨A, c', e, _, r⟩ := h.rm
  have e1 := (Value.slice.inj e).1
  rw [← e1] at r
  exact r
theorem Kept.drewN' {K : Nat → Prop} {w w' : World} (h : Kept K w w') (n : Nat) : Kept K w (w'.drewN n) := h.drewN n
set_option maxHeartbeats 8000000 in
theorem rsAny_any (A : Option Addr) (cA Nb : Nat) (a : Mtx) (one two three : Int) (w : World) (ha : RM w w.heap.size A a) (hNa : Nb = a.length) (hla : a.length ≤ 1048576) (hra : ∀ (k : Nat) (l : List UInt8), a[k]? = some l → l.length ≤ 1048576) :
    Calls Try.prog 4 #[.slice A Nb cA, .int .i64 one, .int .i64 two, .int .i64 three] w fun e w' => e = .returned (.bool true) ∧ Below w.heap.size w w' := by
  have Hk := Lib.hid (known6_any w)
  have HFa : Hid (∀ W, Below w.heap.size w W → Calls Try.prog 9 #[.slice A Nb cA] W fun e w' => e = .returned (.bool (fewS a)) ∧ W = w') := fun W hW => by rw [hNa]; exact few6_any A cA a W _ (ha.below hW) hla hra
  have Ha := Lib.hid ha
  have HN := Lib.hid hNa
  have hNa' : (Nb : Int) ≤ 1048576 := by omega
  clear ha hNa hla hra
  go_enter Try.func4, Try.ntmps4
  go_wp2_with fail
  refine Hk.out.mono ?_
  rintro e w1 ⟨rfl, hb1⟩
  have Hb1 := Lib.hid hb1
  have HFa1 := Lib.hid (HFa.out w1 hb1)
  clear hb1 Hk HFa
  by_cases c1 : (Nb : Int) < 1
  · go_wp2_with fail
    go_ret
    exact ⟨rfl, Hb1.out⟩
  by_cases c2 : (32 : Int) < (Nb : Int)
  · go_wp2_with fail
    go_ret
    exact ⟨rfl, Hb1.out⟩
  rcases hfa : fewS a with _ | _
  · rw [hfa] at HFa1
    go_wp2_with fail
    refine HFa1.out.mono ?_
    rintro e w2 ⟨rfl, rfl⟩
    go_wp2_with fail
    go_ret
    exact ⟨rfl, Hb1.out⟩
  rw [hfa] at HFa1
  obtain ⟨fa1, fa2⟩ := few_facts hfa
  obtain ⟨n, hn⟩ : ∃ n, n = (a.headD []).length := ⟨_, rfl⟩
  obtain ⟨ba, oa, rfl, hba⟩ := Ha.out.at_ (by have := HN.out; omega)
  have ha0 := head_get (M := a) (by have := HN.out; omega)
  obtain ⟨A0, c0, q0, _, _⟩ := Ha.out.row ha0
  rw [← hn, Nat.add_zero] at q0
  have hn4 : n ≤ 4000 := by rw [hn]; have := sumS_le ha0; omega
  have Hq0 : Hid (∀ W, Below w.heap.size w W → W.cell? ⟨ba, oa, none⟩ = some (.slice A0 n c0)) := fun W hW => (hW.cell (p := ⟨ba, oa, none⟩) hba).trans q0
  have q1 := Hq0.out w1 Hb1.out
  by_cases hn0 : n = 0
  · subst hn0
    clear q0 hn ha0
    go_wp2_with fail
    refine HFa1.out.mono ?_
    rintro e w2 ⟨rfl, rfl⟩
    go_wp2_with fail
    go_ret
    exact ⟨rfl, Hb1.out⟩
  have c6 : ((n : Int) == 0) = false := by simp; omega
  have Hn : Hid (n = (a.headD []).length ∧ 1 ≤ n ∧ n ≤ 4000 ∧ 1 ≤ Nb ∧ Nb ≤ 32 ∧ ba < w.heap.size ∧ a[0]? = some (a.headD [])) := ⟨hn, by omega, hn4, by omega, by omega, hba, ha0⟩
  have hn' : (n : Int) ≤ 4000 := by omega
  have hN32 : (Nb : Int) ≤ 32 := by omega
  clear q0 hn ha0 hfa fa1 fa2 hn4 hn0 hba c2 hNa'
  go_wp2_with fail
  refine HFa1.out.mono ?_
  rintro e w2 ⟨rfl, rfl⟩
  go_wp2_with fail
  have e1 : decide ((Nb : Int) < 1) = false := by simp; omega
  have e2 : decide ((32 : Int) < (Nb : Int)) = false := by simp; omega
  simp only [e1, e2, Bool.or_false]
  clear e1 e2 q1 HFa1
  go_loopw [10] (fun iv wr => ∃ i q : Nat, iv = .int .i64 (i : Int) ∧ i ≤ Nb ∧ Hid (wr = w1.drewN q ∧ ∀ (t : Nat) (x : List UInt8), t < i → a[t]? = some x → x.length = n)) (fun iv _ => Nb - (intOf iv).toNat)
  case atStart => exact ⟨0, 0, rfl, Nat.zero_le _, by simp [World.drewN], fun t x ht => by omega⟩
  case round =>
    obtain ⟨i, q, rfl, hi, hrel⟩ := hrel
    have Hbe : Hid (Below w.heap.size w wr) := by rw [hrel.out.1]; exact drewN_below Hb1.out q
    by_cases hlt : i < Nb
    · have hlt' : (i : Int) < (Nb : Int) := by omega
      obtain ⟨x, hx⟩ : ∃ x, a[i]? = some x := ⟨_, List.getElem?_eq_getElem (by have := HN.out; omega)⟩
      obtain ⟨Ax, cx, hcx, _, _⟩ := Ha.out.row hx
      have k0 := Hq0.out wr Hbe.out
      have k1 : wr.cell? ⟨ba, oa + i, none⟩ = some (.slice Ax x.length cx) := (Hbe.out.cell (p := ⟨ba, oa + i, none⟩) Hn.out.2.2.2.2.2.1).trans hcx
      by_cases hxn : x.length = n
      case neg =>
        have d1 : ((x.length : Int) != (n : Int)) = true := by simp; omega
        generalize x.length = xl at *
        clear hx hcx hrel hlt hxn
        go_wp2_with fail
        go_quiet (fail)
        go_wp2_with fail
        go_ret
        exact ⟨rfl, drewN_below Hbe.out _⟩
      have Hx : Hid (∀ nq, wr.drewN nq = w1.drewN (q + nq) ∧ ∀ (t : Nat) (x : List UInt8), t < i + 1 → a[t]? = some x → x.length = n) := fun nq => ⟨by rw [hrel.out.1]; simp [World.drewN, Nat.add_assoc], fun t x' ht hx' => by
        by_cases e : t < i
        · exact hrel.out.2 t x' e hx'
        · obtain rfl : t = i := by omega
          rw [hx] at hx'
          cases hx'
          exact hxn⟩
      rw [hxn] at k1
      have d1 : ((n : Int) != (n : Int)) = false := by simp
      clear hx hcx hrel hlt hxn
      go_wp2_with fail
      go_quiet (fail)
      go_wp2_with fail
      go_roundw
      case rel => exact ⟨i + 1, q + nq, by go_num, by omega, Hx.out nq⟩
      case measure => simp [intOf]; omega
    · obtain rfl : i = Nb := by omega
      have hla : ∀ (t : Nat) (l : List UInt8), a[t]? = some l → l.length = n := fun t l hl => hrel.out.2 t l (by have := (List.getElem?_eq_some_iff.1 hl).1; have := HN.out; omega) hl
      have hbe := Hbe.out
      obtain ⟨w3, hw3⟩ : ∃ w3, w3 = wr.alloc (.cells #[.int .i64 (i : Int)] 47) := ⟨_, rfl⟩
      have HNw : Hid (Calls Try.prog 10 #[.int .i64 (i : Int)] wr fun e w' => e = .returned (.tuple #[.pointer (some ⟨wr.heap.size, 0, none⟩), .int .i64 0]) ∧ w' = w3) := by rw [hw3]; exact new_yes i wr (by omega) (by omega)
      have hb3 : Below wr.heap.size wr w3 := by rw [hw3]; exact (Below.refl _ _).alloc (Nat.le_refl _) _
      have hc3 : w3.cell? ⟨wr.heap.size, 0, none⟩ = some (.int .i64 (i : Int)) := by rw [hw3]; exact cell_new _ _ _
      have hs3 : wr.heap.size < w3.heap.size := World.block_lt_of_cell? _ _ hc3
      have hb03 : Below w.heap.size w w3 := hbe.trans (hb3.mono hbe.size)
      have HPar : Hid (Calls Try.prog 12 #[.pointer (some ⟨wr.heap.size, 0, none⟩), .slice (some ⟨ba, oa, none⟩) i cA] w3 fun e w' => ∃ A8 c8, e = .returned (.tuple #[.slice A8 2 c8, .int .i64 0]) ∧ RM w' w'.heap.size A8 (linM (pairsM i) a n) ∧ Below w3.heap.size w3 w') := by
        have := parity_any wr.heap.size i i cA (some ⟨ba, oa, none⟩) a w3 hc3 ((Ha.out.below hb03).wide hb03.size) HN.out (by omega) (by omega) (by omega) (fun t l hl => by rw [hla t l hl]; have := Hn.out; omega)
        have hp := par_yes HN.out.symm Hn.out.2.1 hla
        have e1 : parL i a = linM (pairsM i) a n := by unfold parL; rw [if_pos hp, ← Hn.out.1]
        have e2 : parE i a = 0 := by unfold parE; rw [if_pos hp]
        rw [e1, e2] at this
        refine this.mono fun e w' hx => ?_
        obtain ⟨A8, c8, g1, g2, _, g3⟩ := hx.rm
        exact ⟨A8, c8, g1, g2, g3⟩
      have H3 : Hid (Below w.heap.size w w3 ∧ w3.cell? ⟨wr.heap.size, 0, none⟩ = some (.int .i64 (i : Int)) ∧ wr.heap.size < w3.heap.size) := ⟨hb03, hc3, hs3⟩
      have Hla := Lib.hid hla
      clear hla hbe hw3 hb3 hc3 hs3 hb03 hlt hrel
      go_wp2_with fail
      refine HNw.out.mono ?_
      rintro e w' ⟨rfl, rfl⟩
      go_wp2_with fail
      refine HPar.out.mono ?_
      rintro e w4 ⟨A4, c4, rfl, r4, b4⟩
      have Hb4 : Hid (Below w.heap.size w w4 ∧ Below w'.heap.size w' w4) := ⟨H3.out.1.trans (b4.mono H3.out.1.size), b4⟩
      obtain ⟨b4', o4, rfl, _⟩ := r4.at_ (by simp [linM, pairsM])
      obtain ⟨ra, hra1, hra2, hra3⟩ := rm_rows ((Ha.out.below Hb4.out.1))
      obtain ⟨rp, hrp1, hrp2, hrp3⟩ := rm_rows r4
      have Hra : Hid (i = ra.length ∧ 2 = rp.length ∧ (∀ u ∈ ra, u.oneCell' = true) ∧ (∀ u ∈ rp, u.oneCell' = true) ∧ (∀ (j : Nat) (u : Value), ra[j]? = some u → w4.cell? ⟨ba, oa + j, none⟩ = some u) ∧ (∀ (j : Nat) (u : Value), rp[j]? = some u → w4.cell? ⟨b4', o4 + j, none⟩ = some u) ∧
          ∀ (t : Nat) (r : Value) (l : List UInt8), (ra ++ rp)[t]? = some r → (allD i n a)[t]? = some l → ∃ A c, r = .slice A l.length c ∧ RB w4 w4.heap.size A l ∧ l.length ≤ c) := ⟨by rw [hra1]; exact HN.out, by rw [hrp1]; simp [linM, pairsM], rows_one hra1 hra3, rows_one hrp1 hrp3, hra2, hrp2, rows_append hra1 Hb4.out.1.size hra3 hrp3⟩
      have hra32 : ra.length ≤ 32 := by have := Hra.out.1; omega
      have hrp2' : rp.length = 2 := Hra.out.2.1.symm
      have hbal : ba < w4.heap.size := by have := Hb4.out.1.size; have := Hn.out.2.2.2.2.2.1; omega
      have hb4l : b4' < w4.heap.size := by
        obtain ⟨u, hu⟩ : ∃ u, rp[0]? = some u := ⟨_, List.getElem?_eq_getElem (by omega)⟩
        have := World.block_lt_of_cell? _ _ (hrp2 0 u hu)
        exact this
      clear r4 b4 hra1 hra2 hra3 hrp1 hrp2 hrp3 HPar HNw
      go_wp2_with (first
        | (at_builtin; (refine app_many rfl (.tmp 77) (.tmp 78) 22 41 rfl Try.underlying22 (.slice none 0 0) 24 info_row rfl w4.heap.size _ [] rfl (own_made w4 _ (Nat.le_refl _)) ⟨ba, oa, none⟩ i cA ra rfl Hra.out.1 (fun j u hj => by rw [add_flat]; exact (World.cell?_alloc_lt w4 _ ⟨ba, oa + j, none⟩ hbal).trans (Hra.out.2.2.2.2.1 j u hj)) Hra.out.2.2.1 (by simp; omega) (by simp; omega) (by simp) ?_); intro v5 w5 hown hg _; have H5 : Hid (OwnV w5 w4.heap.size 41 v5 ra ∧ Below w4.heap.size w4 w5) := ⟨by simpa using hown, ((Below.refl _ _).alloc (Nat.le_refl _) _).grown hg (by simp) (fun g hg => by cases hg; exact Nat.le_refl _)⟩; clear hown hg)
        | (at_builtin; (refine app_many rfl (.tmp 79) (.tmp 80) 22 41 rfl Try.underlying22 (.slice none 0 0) 24 info_row rfl w4.heap.size _ ra rfl H5.out.1 ⟨b4', o4, none⟩ 2 c4 rp rfl Hra.out.2.1 (fun j u hj => by rw [add_flat]; exact (H5.out.2.cell (p := ⟨b4', o4 + j, none⟩) hb4l).trans (Hra.out.2.2.2.2.2.1 j u hj)) Hra.out.2.2.2.1 (by omega) (by omega) H5.out.2.size ?_); intro v6 w6 hown hg _; have H6 : Hid (ListR w4 v6 (ra ++ rp) (allD i n a) w6) := ListR.of_own hown (H5.out.2.grown hg H5.out.2.size (fun g hg => (H5.out.1.ge g hg).1)) (by rw [List.length_append, allD_length HN.out.symm]; have := Hra.out; omega) Hra.out.2.2.2.2.2.2; clear hown hg; obtain ⟨g6, c6', e6, hg61, hg62, hg63⟩ := own_cells H6.out.head (by rw [List.length_append]; have := Hra.out; omega); have e62 : (ra ++ rp).length = i + 2 := (by rw [List.length_append]; have := Hra.out; omega); rw [e62] at e6; subst e6; have H62 : Hid (w4.heap.size ≤ g6 ∧ g6 < w6.heap.size ∧ (∀ (j : Nat) (u : Value), (ra ++ rp)[j]? = some u → w6.cell? ⟨g6, j, none⟩ = some u) ∧ i + 2 = (ra ++ rp).length ∧ ∀ u ∈ ra ++ rp, u.oneCell' = true) := ⟨hg61, hg62, hg63, e62.symm, fun u hu => (by rcases List.mem_append.1 hu with h | h; exact Hra.out.2.2.1 u h; exact Hra.out.2.2.2.1 u h)⟩; clear hg61 hg62 hg63 e62)
        | (at_builtin; go_must (refine app_many rfl (.tmp 82) (.tmp 83) 22 41 rfl Try.underlying22 (.slice none 0 0) 24 info_row rfl w6.heap.size _ [] rfl (own_made w6 _ (Nat.le_refl _)) ⟨g6, 0, none⟩ (i + 2) c6' (ra ++ rp) rfl H62.out.2.2.2.1 (fun j u hj => by rw [add_flat, Nat.zero_add]; exact (World.cell?_alloc_lt w6 _ ⟨g6, j, none⟩ H62.out.2.1).trans (H62.out.2.2.1 j u hj)) H62.out.2.2.2.2 (by have := H62.out.2.2.2.1; simp at this ⊢; omega) (by have := H62.out.2.2.2.1; simp at this ⊢; omega) (by simp) ?_); intro v7 w7 hown hg _; have H7 : Hid (ListR w6 v7 (ra ++ rp) (allD i n a) w7) := ListR.of_own (by simpa using hown) (((Below.refl _ _).alloc (Nat.le_refl _) _).grown hg (by simp) (fun g hg => by cases hg; exact Nat.le_refl _)) H6.out.len (fun t r l h1 h2 => (by obtain ⟨A, c, e, g1, g2⟩ := H6.out.rows t r l h1 h2; exact ⟨A, c, e, g1.wide H6.out.bel.size, g2⟩)); clear hown hg; obtain ⟨g7, c7, e7, hg71, hg72, hg73⟩ := own_cells H7.out.head (by rw [← H62.out.2.2.2.1]; omega); rw [← H62.out.2.2.2.1] at e7; subst e7; have H72 : Hid (w6.heap.size ≤ g7 ∧ g7 < w7.heap.size) := ⟨hg71, hg72⟩; clear hg71 hg72 hg73))
      have HReb : Hid (∀ (rows : List Value) (S : Mtx) (W : World), ListR w6 (.slice (some ⟨g7, 0, none⟩) (i + 2) c7) rows S W → Sub (allD i n a) S → Calls Try.prog 16 #[.pointer (some ⟨wr.heap.size, 0, none⟩), .slice (some ⟨g7, 0, none⟩) (i + 2) c7] W (TellsO W (rebL i S) (rebE i S))) := fun rows S W hL hs => by
        have hb36 : Below w'.heap.size w' W := Hb4.out.2.trans ((H6.out.bel.trans (hL.bel.mono H6.out.bel.size)).mono Hb4.out.2.size)
        refine rebuild_any wr.heap.size i (i + 2) c7 (some ⟨g7, 0, none⟩) S W ((hb36.cell (p := ⟨wr.heap.size, 0, none⟩) H3.out.2.2).trans H3.out.2.1) hL.rm' (by rw [hs.1, allD_length HN.out.symm]) (by have := Hn.out; omega) Hn.out.2.2.2.1 (by have := Hn.out; omega) (fun t l hl => ?_)
        rcases (sub_fit HN.out.symm Hla.out hs).2 t l hl with h | h
        · omega
        · have := Hn.out; omega
      obtain ⟨W8, hW8⟩ : ∃ W8, W8 = w7.alloc (.cells #[.int .i64 one, .int .i64 two, .int .i64 three] 3) := ⟨_, rfl⟩
      have HG8 : Hid (Cells W8 w7.heap.size 3 [.int .i64 one, .int .i64 two, .int .i64 three] ∧ Below w7.heap.size w7 W8) := by
        rw [hW8]
        exact ⟨Cells.new w7 _ _, (Below.refl _ _).alloc (Nat.le_refl _) _⟩
      rw [← hW8]
      clear hW8
      have hk1 : 1 ≤ i := Hn.out.2.2.2.1
      have hk2 : i ≤ 253 := by have := Hn.out; omega
      have HYes : Hid (∀ (rows : List Value) (S : Mtx) (W : World), ListR w6 (.slice (some ⟨g7, 0, none⟩) (i + 2) c7) rows S W → Sub (allD i n a) S → (missL S).length ≤ 2 → Calls Try.prog 16 #[.pointer (some ⟨wr.heap.size, 0, none⟩), .slice (some ⟨g7, 0, none⟩) (i + 2) c7] W fun e w9 => ∃ A9 c9, e = .returned (.tuple #[.slice A9 (i + 2) c9, .int .i64 0]) ∧ RM w9 w9.heap.size A9 (allD i n a) ∧ Below W.heap.size W w9) := fun rows S W hL hs hm => by
        have := HReb.out rows S W hL hs
        obtain ⟨e1, e2⟩ := any_reb hk1 hk2 Hn.out.2.1 HN.out.symm Hla.out hs hm
        rw [e1, e2] at this
        refine this.mono fun e w9 hx => ?_
        obtain ⟨A9, c9, g1, g2, _, g3⟩ := hx.rm
        rw [allD_length HN.out.symm] at g1
        exact ⟨A9, c9, g1, g2, g3⟩
      have HNo : Hid (∀ (rows : List Value) (S : Mtx) (W : World), ListR w6 (.slice (some ⟨g7, 0, none⟩) (i + 2) c7) rows S W → Sub (allD i n a) S → 2 < (missL S).length → Calls Try.prog 16 #[.pointer (some ⟨wr.heap.size, 0, none⟩), .slice (some ⟨g7, 0, none⟩) (i + 2) c7] W fun e w9 => ∃ A9 c9, e = .returned (.tuple #[.slice A9 0 c9, .int .i64 7]) ∧ Below W.heap.size W w9) := fun rows S W hL hs hm => by
        have := HReb.out rows S W hL hs
        obtain ⟨e1, e2⟩ := any_lost HN.out.symm Hla.out hs hm
        rw [e1, e2] at this
        refine this.mono fun e w9 hx => ?_
        obtain ⟨A9, c9, g1, _, _, g3⟩ := hx.rm
        exact ⟨A9, c9, g1, g3⟩
      have HSame : Hid (∀ (A9 : Option Addr) (c9 : Nat) (W : World), RM W W.heap.size A9 (allD i n a) → Below w6.heap.size w6 W → Calls Try.prog 15 #[.slice A9 (i + 2) c9, .slice (some ⟨g6, 0, none⟩) (i + 2) c6'] W fun e w' => e = .returned (.bool true) ∧ ∃ q, w' = W.drewN q) := fun A9 c9 W hm hb => by
        have := same_any A9 (some ⟨g6, 0, none⟩) c9 c6' (allD i n a) (allD i n a) W _ hm (((H6.out.rm').below hb).wide hb.size) (by rw [allD_length HN.out.symm]; omega)
        rw [allD_length HN.out.symm, decide_eq_true rfl] at this
        exact this
      have HgA : Hid (∀ (S : Mtx), Sub (allD i n a) S → ∀ (x : Nat) (l : List UInt8), S[x]? = some l → l.length = 0 ∨ l.length = n) := fun S hs x l hl => (sub_fit HN.out.symm Hla.out hs).2 x l hl
      have Hst : Hid (ListR w6 (.slice (some ⟨g7, 0, none⟩) (i + 2) c7) (ra ++ rp) (allD i n a) W8 ∧ Kept (fun b => b ≠ g7) W8 W8 ∧ Sub (allD i n a) (allD i n a) ∧ (missL (allD i n a)).length = 0) := ⟨H7.out.below HG8.out.2, Kept.refl _ _, Sub.refl _, missL_full fun t l hl => by rw [allD_row HN.out.symm Hla.out hl]; have := Hn.out; omega⟩
      have hi2 : (((i : Int)) + 2) = (((i + 2 : Nat)) : Int) := by omega
      clear HReb hk1 hk2 hra32 hrp2' hbal hb4l hi2
      go_loopw [16, 18] (fun nv tv wz => ∃ (t nn : Nat) (rows : List Value) (S : Mtx), nv = .int .i64 (nn : Int) ∧ tv = .int .i64 (t : Int) ∧ t ≤ 3 ∧ nn ≤ t ∧ Hid (ListR w6 (.slice (some ⟨g7, 0, none⟩) (i + 2) c7) rows S wz ∧ Kept (fun b => b ≠ g7) W8 wz ∧ Sub (allD i n a) S ∧ (missL S).length = nn)) (fun _ tv _ => 3 - (intOf tv).toNat)
      case atStart => exact ⟨0, 0, _, _, rfl, rfl, by omega, by omega, Hst.out⟩
      case round =>
        obtain ⟨t, nn, rows, S, rfl, rfl, ht, hnn, hrel⟩ := hrel
        by_cases htl : t < 3
        · have htl' : (t : Int) < 3 := by omega
          have hnn3 : (nn : Int) ≤ 3 := by omega
          obtain ⟨x, hx⟩ : ∃ x : Int, [Value.int .i64 one, .int .i64 two, .int .i64 three][t]? = some (.int .i64 x) := by
            match t, htl with
            | 0, _ => exact ⟨one, rfl⟩
            | 1, _ => exact ⟨two, rfl⟩
            | 2, _ => exact ⟨three, rfl⟩
          have k1 : wr.cell? ⟨w7.heap.size, t, none⟩ = some (.int .i64 x) := (World.cell?_of_block (w := W8) (hrel.out.2.1.block w7.heap.size HG8.out.1.lt (by have := H72.out; omega))).trans (HG8.out.1.cell hx)
          clear hx
          have HL := Lib.hid hrel.out
          clear hrel
          by_cases hx0 : x < 0
          · have d0 : decide (0 ≤ x) = false := by simp; omega
            by_cases h2 : nn ≤ 2
            · have h2' : (((nn : Nat)) : Int) ≤ 2 := by omega
              have h2'' : ¬ (2 : Int) < (((nn : Nat)) : Int) := by omega
              have HR := Lib.hid (HYes.out _ _ _ HL.out.1 HL.out.2.2.1 (by rw [HL.out.2.2.2]; exact h2))
              clear h2
              try simp only [Int.natCast_add, Int.cast_ofNat_Int] at h2' h2''
              go_wp2_with fail
              refine HR.out.mono ?_
              rintro e w9 ⟨A9, c9, rfl, r9, b9⟩
              have HL9 : Hid (ListR w6 (.slice (some ⟨g7, 0, none⟩) (i + 2) c7) rows S w9 ∧ Kept (fun b => b ≠ g7) W8 w9 ∧ Sub (allD i n a) S ∧ (missL S).length = nn) := ⟨HL.out.1.below b9, HL.out.2.1.below b9, HL.out.2.2⟩
              have HSm := Lib.hid (HSame.out A9 c9 w9 r9 HL9.out.1.bel)
              clear r9 b9 HR HL
              go_wp2_with fail
              refine HSm.out.mono ?_
              rintro e w10 ⟨rfl, q, hw⟩
              have HLA : Hid (ListR w6 (.slice (some ⟨g7, 0, none⟩) (i + 2) c7) rows S w10 ∧ Kept (fun b => b ≠ g7) W8 w10 ∧ Sub (allD i n a) S ∧ (missL S).length = nn) := by
                rw [hw]
                exact ⟨HL9.out.1.drewN q, HL9.out.2.1.drewN q, HL9.out.2.2⟩
              clear hw HSm HL9
              go_wp2_with fail
              go_roundw
              case rel => exact ⟨t + 1, nn, _, S, by go_num, by go_num, by omega, by omega, HLA.out⟩
              case measure => simp [intOf]; omega
            · have h3 : (2 : Int) < (((nn : Nat)) : Int) := by omega
              have h3' : decide ((((nn : Nat)) : Int) ≤ 2) = false := by simp; omega
              have HR := Lib.hid (HNo.out _ _ _ HL.out.1 HL.out.2.2.1 (by rw [HL.out.2.2.2]; omega))
              clear h2
              try simp only [Int.natCast_add, Int.cast_ofNat_Int] at h3 h3'
              go_wp2_with fail
              refine HR.out.mono ?_
              rintro e w9 ⟨A9, c9, rfl, b9⟩
              have HL9 : Hid (ListR w6 (.slice (some ⟨g7, 0, none⟩) (i + 2) c7) rows S w9 ∧ Kept (fun b => b ≠ g7) W8 w9 ∧ Sub (allD i n a) S ∧ (missL S).length = nn) := ⟨HL.out.1.below b9, HL.out.2.1.below b9, HL.out.2.2⟩
              clear b9 HR HL
              go_wp2_with fail
              go_roundw
              case rel => exact ⟨t + 1, nn, _, S, by go_num, by go_num, by omega, by omega, HL9.out⟩
              case measure => simp [intOf]; omega
          have hx1 : 0 ≤ x := by omega
          by_cases hx2 : (i : Int) + 2 ≤ x
          · have d0 : decide (x < (i : Int) + 2) = false := by simp; omega
            by_cases h2 : nn ≤ 2
            · have h2' : (((nn : Nat)) : Int) ≤ 2 := by omega
              have h2'' : ¬ (2 : Int) < (((nn : Nat)) : Int) := by omega
              have HR := Lib.hid (HYes.out _ _ _ HL.out.1 HL.out.2.2.1 (by rw [HL.out.2.2.2]; exact h2))
              clear h2
              try simp only [Int.natCast_add, Int.cast_ofNat_Int] at h2' h2''
              go_wp2_with fail
              refine HR.out.mono ?_
              rintro e w9 ⟨A9, c9, rfl, r9, b9⟩
              have HL9 : Hid (ListR w6 (.slice (some ⟨g7, 0, none⟩) (i + 2) c7) rows S w9 ∧ Kept (fun b => b ≠ g7) W8 w9 ∧ Sub (allD i n a) S ∧ (missL S).length = nn) := ⟨HL.out.1.below b9, HL.out.2.1.below b9, HL.out.2.2⟩
              have HSm := Lib.hid (HSame.out A9 c9 w9 r9 HL9.out.1.bel)
              clear r9 b9 HR HL
              go_wp2_with fail
              refine HSm.out.mono ?_
              rintro e w10 ⟨rfl, q, hw⟩
              have HLA : Hid (ListR w6 (.slice (some ⟨g7, 0, none⟩) (i + 2) c7) rows S w10 ∧ Kept (fun b => b ≠ g7) W8 w10 ∧ Sub (allD i n a) S ∧ (missL S).length = nn) := by
                rw [hw]
                exact ⟨HL9.out.1.drewN q, HL9.out.2.1.drewN q, HL9.out.2.2⟩
              clear hw HSm HL9
              go_wp2_with fail
              go_roundw
              case rel => exact ⟨t + 1, nn, _, S, by go_num, by go_num, by omega, by omega, HLA.out⟩
              case measure => simp [intOf]; omega
            · have h3 : (2 : Int) < (((nn : Nat)) : Int) := by omega
              have h3' : decide ((((nn : Nat)) : Int) ≤ 2) = false := by simp; omega
              have HR := Lib.hid (HNo.out _ _ _ HL.out.1 HL.out.2.2.1 (by rw [HL.out.2.2.2]; omega))
              clear h2
              try simp only [Int.natCast_add, Int.cast_ofNat_Int] at h3 h3'
              go_wp2_with fail
              refine HR.out.mono ?_
              rintro e w9 ⟨A9, c9, rfl, b9⟩
              have HL9 : Hid (ListR w6 (.slice (some ⟨g7, 0, none⟩) (i + 2) c7) rows S w9 ∧ Kept (fun b => b ≠ g7) W8 w9 ∧ Sub (allD i n a) S ∧ (missL S).length = nn) := ⟨HL.out.1.below b9, HL.out.2.1.below b9, HL.out.2.2⟩
              clear b9 HR HL
              go_wp2_with fail
              go_roundw
              case rel => exact ⟨t + 1, nn, _, S, by go_num, by go_num, by omega, by omega, HL9.out⟩
              case measure => simp [intOf]; omega
          obtain ⟨xn, rfl⟩ : ∃ xn : Nat, x = (xn : Int) := ⟨x.toNat, by omega⟩
          have hxi : xn < i + 2 := by omega
          have hSl : S.length = i + 2 := by rw [HL.out.2.2.1.1, allD_length HN.out.symm]
          obtain ⟨l, hl⟩ : ∃ l, S[xn]? = some l := ⟨_, List.getElem?_eq_getElem (by omega)⟩
          obtain ⟨Al, cl, hcl, _, _⟩ := HL.out.1.rm'.row hl
          rw [Nat.zero_add] at hcl
          have hln := HgA.out S HL.out.2.2.1 xn l hl
          have hx3 : (xn : Int) < (i : Int) + 2 := by omega
          by_cases hl0 : l.length = 0
          · rw [hl0] at hcl
            clear hl hl0 hln hSl hxi hx0 hx1 hx2
            by_cases h2 : nn ≤ 2
            · have h2' : (((nn : Nat)) : Int) ≤ 2 := by omega
              have h2'' : ¬ (2 : Int) < (((nn : Nat)) : Int) := by omega
              have HR := Lib.hid (HYes.out _ _ _ HL.out.1 HL.out.2.2.1 (by rw [HL.out.2.2.2]; exact h2))
              clear h2
              try simp only [Int.natCast_add, Int.cast_ofNat_Int] at h2' h2''
              go_wp2_with fail
              refine HR.out.mono ?_
              rintro e w9 ⟨A9, c9, rfl, r9, b9⟩
              have HL9 : Hid (ListR w6 (.slice (some ⟨g7, 0, none⟩) (i + 2) c7) rows S w9 ∧ Kept (fun b => b ≠ g7) W8 w9 ∧ Sub (allD i n a) S ∧ (missL S).length = nn) := ⟨HL.out.1.below b9, HL.out.2.1.below b9, HL.out.2.2⟩
              have HSm := Lib.hid (HSame.out A9 c9 w9 r9 HL9.out.1.bel)
              clear r9 b9 HR HL
              go_wp2_with fail
              refine HSm.out.mono ?_
              rintro e w10 ⟨rfl, q, hw⟩
              have HLA : Hid (ListR w6 (.slice (some ⟨g7, 0, none⟩) (i + 2) c7) rows S w10 ∧ Kept (fun b => b ≠ g7) W8 w10 ∧ Sub (allD i n a) S ∧ (missL S).length = nn) := by
                rw [hw]
                exact ⟨HL9.out.1.drewN q, HL9.out.2.1.drewN q, HL9.out.2.2⟩
              clear hw HSm HL9
              go_wp2_with fail
              go_roundw
              case rel => exact ⟨t + 1, nn, _, S, by go_num, by go_num, by omega, by omega, HLA.out⟩
              case measure => simp [intOf]; omega
            · have h3 : (2 : Int) < (((nn : Nat)) : Int) := by omega
              have h3' : decide ((((nn : Nat)) : Int) ≤ 2) = false := by simp; omega
              have HR := Lib.hid (HNo.out _ _ _ HL.out.1 HL.out.2.2.1 (by rw [HL.out.2.2.2]; omega))
              clear h2
              try simp only [Int.natCast_add, Int.cast_ofNat_Int] at h3 h3'
              go_wp2_with fail
              refine HR.out.mono ?_
              rintro e w9 ⟨A9, c9, rfl, b9⟩
              have HL9 : Hid (ListR w6 (.slice (some ⟨g7, 0, none⟩) (i + 2) c7) rows S w9 ∧ Kept (fun b => b ≠ g7) W8 w9 ∧ Sub (allD i n a) S ∧ (missL S).length = nn) := ⟨HL.out.1.below b9, HL.out.2.1.below b9, HL.out.2.2⟩
              clear b9 HR HL
              go_wp2_with fail
              go_roundw
              case rel => exact ⟨t + 1, nn, _, S, by go_num, by go_num, by omega, by omega, HL9.out⟩
              case measure => simp [intOf]; omega
          have hln2 : l.length = n := by omega
          rw [hln2] at hcl
          have hn0 : (0 : Int) < (n : Int) := by have := Hn.out; omega
          obtain ⟨⟨u, p1⟩, p2, p3⟩ := HL.out.1.set (i := xn) (by omega)
          have HL2 : Hid (ListR w6 (.slice (some ⟨g7, 0, none⟩) (i + 2) c7) (rows.set xn (.slice none 0 0)) (S.set xn []) (wr.setCell ⟨g7, xn, none⟩ (.slice none 0 0)) ∧ Kept (fun b => b ≠ g7) W8 (wr.setCell ⟨g7, xn, none⟩ (.slice none 0 0)) ∧ Sub (allD i n a) (S.set xn []) ∧ (missL (S.set xn [])).length = nn + 1) := ⟨p3, HL.out.2.1.setCell (p := ⟨g7, xn, none⟩) (fun e => e rfl) _, HL.out.2.2.1.strike xn (by rw [allD_length HN.out.symm]; exact hxi), by rw [missL_set (by omega) (by rw [getD_of hl]; have := Hn.out; omega), HL.out.2.2.2]⟩
          clear hl hl0 hln hln2 hSl hxi hx0 hx1 hx2 p3 HL
          have HL := HL2
          clear HL2
          by_cases h2 : nn + 1 ≤ 2
          · have h2' : (((nn + 1 : Nat)) : Int) ≤ 2 := by omega
            have h2'' : ¬ (2 : Int) < (((nn + 1 : Nat)) : Int) := by omega
            have HR := Lib.hid (HYes.out _ _ _ HL.out.1 HL.out.2.2.1 (by rw [HL.out.2.2.2]; exact h2))
            clear h2
            try simp only [Int.natCast_add, Int.cast_ofNat_Int] at h2' h2''
            go_wp2_with fail
            refine HR.out.mono ?_
            rintro e w9 ⟨A9, c9, rfl, r9, b9⟩
            have HL9 : Hid (ListR w6 (.slice (some ⟨g7, 0, none⟩) (i + 2) c7) (rows.set xn (.slice none 0 0)) (S.set xn []) w9 ∧ Kept (fun b => b ≠ g7) W8 w9 ∧ Sub (allD i n a) (S.set xn []) ∧ (missL (S.set xn [])).length = nn + 1) := ⟨HL.out.1.below b9, HL.out.2.1.below b9, HL.out.2.2⟩
            have HSm := Lib.hid (HSame.out A9 c9 w9 r9 HL9.out.1.bel)
            clear r9 b9 HR HL
            go_wp2_with fail
            refine HSm.out.mono ?_
            rintro e w10 ⟨rfl, q, hw⟩
            have HLA : Hid (ListR w6 (.slice (some ⟨g7, 0, none⟩) (i + 2) c7) (rows.set xn (.slice none 0 0)) (S.set xn []) w10 ∧ Kept (fun b => b ≠ g7) W8 w10 ∧ Sub (allD i n a) (S.set xn []) ∧ (missL (S.set xn [])).length = nn + 1) := by
              rw [hw]
              exact ⟨HL9.out.1.drewN q, HL9.out.2.1.drewN q, HL9.out.2.2⟩
            clear hw HSm HL9
            go_wp2_with fail
            go_roundw
            case rel => exact ⟨t + 1, nn + 1, _, (S.set xn []), by go_num, by go_num, by omega, by omega, HLA.out⟩
            case measure => simp [intOf]; omega
          · have h3 : (2 : Int) < (((nn + 1 : Nat)) : Int) := by omega
            have h3' : decide ((((nn + 1 : Nat)) : Int) ≤ 2) = false := by simp; omega
            have HR := Lib.hid (HNo.out _ _ _ HL.out.1 HL.out.2.2.1 (by rw [HL.out.2.2.2]; omega))
            clear h2
            try simp only [Int.natCast_add, Int.cast_ofNat_Int] at h3 h3'
            go_wp2_with fail
            refine HR.out.mono ?_
            rintro e w9 ⟨A9, c9, rfl, b9⟩
            have HL9 : Hid (ListR w6 (.slice (some ⟨g7, 0, none⟩) (i + 2) c7) (rows.set xn (.slice none 0 0)) (S.set xn []) w9 ∧ Kept (fun b => b ≠ g7) W8 w9 ∧ Sub (allD i n a) (S.set xn []) ∧ (missL (S.set xn [])).length = nn + 1) := ⟨HL.out.1.below b9, HL.out.2.1.below b9, HL.out.2.2⟩
            clear b9 HR HL
            go_wp2_with fail
            go_roundw
            case rel => exact ⟨t + 1, nn + 1, _, (S.set xn []), by go_num, by go_num, by omega, by omega, HL9.out⟩
            case measure => simp [intOf]; omega
        · obtain rfl : t = 3 := by omega
          have hbe : Below w.heap.size w wr := Hb4.out.1.trans ((H6.out.bel.trans (hrel.out.1.bel.mono H6.out.bel.size)).mono Hb4.out.1.size)
          have Hbe3 := Lib.hid hbe
          clear hbe hrel htl
          go_wp2_with fail
          go_ret
          exact ⟨rfl, Hbe3.out⟩
end Go.Proofs.Ytonihcgjepfpkaa

/-
  The program's Check.
-/
namespace Go.Proofs.Ytonihcgjepfpkaa
open Go.RowKit

set_option maxRecDepth 20000
theorem equal_any (A A2 : Option Addr) (c c2 : Nat) (l m : List UInt8) (w : World) (B : Nat) (h : RB w B A l) (h2 : RB w B A2 m) :
    Calls Try.prog 41 #[.slice A l.length c, .slice A2 m.length c2] w fun e w' => e = .returned (.bool (decide (l = m))) ∧ w = w' := by
  have t1 := text_run w B A l c h
  have t2 := text_run w B A2 m c2 h2
  have He : Hid (((⟨l.toArray⟩ : ByteArray).toList == (⟨m.toArray⟩ : ByteArray).toList) = decide (l = m)) := by
    show _ = _
    rw [eq_text]
    by_cases e : l = m
    · rw [decide_eq_true (by rw [e]), decide_eq_true e]
    · rw [decide_eq_false (fun q => e (by
        have := congrArg (fun s : ByteArray => s.data.toList) q
        simpa using this)), decide_eq_false e]
  generalize (⟨l.toArray⟩ : ByteArray) = X at *
  generalize (⟨m.toArray⟩ : ByteArray) = Y at *
  generalize l.length = n1 at *
  generalize m.length = n2 at *
  clear h h2
  go_enter Try.func41, Try.ntmps41
  go_wp2_with fail
  go_ret
  exact ⟨by rw [← He.out]; rfl, rfl⟩
set_option maxHeartbeats 1600000 in
theorem eqf_any (A A2 : Option Addr) (c c2 : Nat) (M M2 : Mtx) (w : World) (B : Nat) (h : RM w B A M) (h2 : RM w B A2 M2) (hl : M.length ≤ 1048576) (hl2 : M2.length ≤ 1048576) :
    Calls Try.prog 40 #[.slice A M.length c, .slice A2 M2.length c2, .func (.func 41) #[] #[]] w fun e w' => e = .returned (.bool (decide (M = M2))) ∧ w = w' := by
  by_cases hne : M.length = M2.length
  case neg =>
    have hb : (((M.length : Nat) : Int) != ((M2.length : Nat) : Int)) = true := by simp; omega
    have Hr : Hid (decide (M = M2) = false) := decide_eq_false fun e => hne (by rw [e])
    generalize M.length = n1 at *
    generalize M2.length = n2 at *
    clear h h2 hl hne
    go_enter Try.func40, Try.ntmps40
    go_wp2_with fail
    go_ret
    exact ⟨by rw [Hr.out]; rfl, rfl⟩
  obtain ⟨N, hN⟩ : ∃ N, N = M.length := ⟨_, rfl⟩
  have HN : Hid (N = M.length ∧ N = M2.length) := ⟨hN, by rw [← hne]; exact hN⟩
  have Hh := Lib.hid h
  have Hh2 := Lib.hid h2
  rw [← hne, ← hN]
  have hNb : (N : Int) ≤ 1048576 := by omega
  clear h h2 hl hl2 hne hN
  have Hst : Hid (M.take 0 = M2.take 0) := rfl
  go_enter Try.func40, Try.ntmps40
  go_wp2_with fail
  go_loop [7, 8, 9, 17] (fun _ _ _ iv => ∃ k : Nat, iv = .int .i64 (k : Int) ∧ k ≤ N ∧ Hid (M.take k = M2.take k)) (fun _ _ _ iv => N - (intOf iv).toNat)
  case atStart => exact ⟨0, rfl, Nat.zero_le _, Hst.out⟩
  case round =>
    obtain ⟨k, rfl, hk, hpre⟩ := hrel
    by_cases hlt : k < N
    · obtain ⟨l, hx⟩ : ∃ l, M[k]? = some l := ⟨_, List.getElem?_eq_getElem (by rw [← HN.out.1]; exact hlt)⟩
      obtain ⟨l2, hx2⟩ : ∃ l2, M2[k]? = some l2 := ⟨_, List.getElem?_eq_getElem (by rw [← HN.out.2]; exact hlt)⟩
      obtain ⟨b, o, A', c', rfl, hb, hc, hr, _⟩ := Hh.out k l hx
      obtain ⟨b2, o2, A2', c2', rfl, hb2, hc2, hr2, _⟩ := Hh2.out k l2 hx2
      have HE := Lib.hid (equal_any A' A2' c' c2' l l2 w B hr hr2)
      have hk' : (k : Int) < (N : Int) := by omega
      by_cases heq : l = l2
      · subst heq
        rw [decide_eq_true rfl] at HE
        have Hn : Hid (M.take (k + 1) = M2.take (k + 1)) := by
          show _ = _
          rw [List.take_add_one, List.take_add_one, hx, hx2, hpre.out]
        generalize l.length = m at *
        clear hx hx2 hr hr2 hb hb2 hpre hlt
        go_wp2_with fail
        refine HE.out.mono ?_
        rintro e w1 ⟨rfl, rfl⟩
        go_wp2_with fail
        go_round
        case rel => exact ⟨k + 1, by go_num, by omega, Hn.out⟩
        case measure => simp [intOf]; omega
      · have Hr : Hid (decide (M = M2) = false) := decide_eq_false fun e => heq (by
          rw [e, hx2] at hx
          exact (Option.some.inj hx).symm)
        rw [decide_eq_false heq] at HE
        generalize l.length = m at *
        generalize l2.length = m2 at *
        clear hx hx2 hr hr2 hb hb2 hpre hlt heq
        go_wp2_with fail
        refine HE.out.mono ?_
        rintro e w1 ⟨rfl, rfl⟩
        go_wp2_with fail
        go_ret
        exact ⟨by rw [Hr.out]; rfl, rfl⟩
    · obtain rfl : k = N := by omega
      have Hr : Hid (decide (M = M2) = true) := decide_eq_true (by
        have := hpre.out
        rwa [List.take_of_length_le (by rw [← HN.out.1]; exact Nat.le_refl _), List.take_of_length_le (by rw [← HN.out.2]; exact Nat.le_refl _)] at this)
      clear hlt hpre
      go_wp2_with fail
      go_ret
      exact ⟨by rw [Hr.out]; rfl, rfl⟩
/-- what Check tells -/
def chkB (k : Nat) (S : Mtx) : Bool := fitB ((k : Int) + 2) S && decide ((missL S).length = 0)
def chkV (k : Nat) (S : Mtx) : Bool := decide (parL k (S.take k) = S.drop k)
def chkA (k : Nat) (S : Mtx) : Bool := chkB k S && chkV k S
def chkE (k : Nat) (S : Mtx) : Int := if chkB k S then 0 else 1
theorem chk_facts {k : Nat} {S : Mtx} (h : chkB k S = true) : S.length = k + 2 ∧ 1 ≤ (S.headD []).length ∧ ∀ (i : Nat) (l : List UInt8), S[i]? = some l → l.length = (S.headD []).length := by
  have h' : parB (k + 2) S = true := by
    unfold chkB at h
    unfold parB
    rw [show (((k + 2 : Nat)) : Int) = (k : Int) + 2 by omega]
    exact h
  exact par_facts h' (by omega)
theorem RM.take' {w : World} {B : Nat} {A : Option Addr} {M : Mtx} (h : RM w B A M) (k : Nat) : RM w B A (M.take k) := fun j l hl => by
  rw [List.getElem?_take] at hl
  split at hl
  · exact h j l hl
  · cases hl
theorem RM.drop' {w : World} {B b o : Nat} {M : Mtx} (h : RM w B (some ⟨b, o, none⟩) M) (k : Nat) : RM w B (some ⟨b, o + k, none⟩) (M.drop k) := fun j l hl => by
  rw [List.getElem?_drop] at hl
  obtain ⟨b', o', A', c, e, hb, hc, hr, hcap⟩ := h _ l hl
  cases e
  exact ⟨b, o + k, A', c, rfl, hb, by rw [Nat.add_assoc]; exact hc, hr, hcap⟩
theorem slice_low (W : World) (b o k n c : Nat) (h1 : k ≤ n) (h2 : k < c) : (Instr.sliceAt 22 (.slice (some ⟨b, o, none⟩) n c) (some (.int .i64 (k : Int))) none none).run Try.prog W = .ok (.slice (some ⟨b, o + k, none⟩) (n - k) (c - k)) W := by
  have h3 : (k : Int) ≤ (n : Int) := by omega
  have h4 : ¬ k = c := by omega
  simp [go_sem, h3, h4, sliced, Addr.add]
  rw [if_neg (by omega)]
  by_cases h5 : k = 0
  · subst h5; simp
  · simp [h5]
set_option maxHeartbeats 1600000 in
theorem check_body (c0 c1 bc k N c : Nat) (A : Option Addr) (S : Mtx) (w : World) (he : EnvAt c0 c1 bc k (.slice A N c) w) (h : RM w w.heap.size A S) (hN : N = S.length) (hNc : N ≤ c) (hN2 : N ≤ 255) (hk1 : 1 ≤ k) (hk2 : k ≤ 253) (hl : ∀ (k : Nat) (l : List UInt8), S[k]? = some l → l.length ≤ 1048576) :
    Calls Try.prog 38 #[.pointer (some ⟨c0, 0, none⟩), .pointer (some ⟨c1, 0, none⟩)] w (DoPost w (fun v _ => chkB k S = true ∧ v = .bool (chkV k S)) (fun x => chkB k S = false ∧ x = 1)) := by
  have Hb : Hid (N = S.length ∧ N ≤ 255 ∧ 1 ≤ k ∧ k ≤ 253 ∧ N ≤ c) := ⟨hN, hN2, hk1, hk2, hNc⟩
  have Hh := Lib.hid h
  have He := Lib.hid he
  have Hl := Lib.hid hl
  have HF := Lib.hid (mustFit_any ((k : Int) + 2) A c N S w.drew _ (h.drewN 1) hN (by omega) hl)
  have HT := Lib.hid (mustBeThere_any A c N S w.drew (h.drewN 1) hN (by omega))
  have hk2' : (k : Int) ≤ 253 := by omega
  have hN2' : (N : Int) ≤ 255 := by omega
  obtain ⟨q1, q2, q3⟩ := he
  clear h hN hNc hN2 hk1 hk2 hl
  go_enter Try.func38, Try.ntmps38
  go_wp2_with fail
  refine wp_region_still_tail 6 (by kernel_rfl) (by kernel_rfl) ?_
  simp only [List.take_succ_cons, List.take_zero, List.drop_succ_cons, List.drop_zero]
  repeat still_step
  try refine wpStill_nil ?_
  change wpList _ _ _ _ _ w.drew
  go_wp2_with fail
  rcases hf : fitB ((k : Int) + 2) S with _ | _
  · rw [hf] at HF
    refine HF.out.mono ?_
    rintro e w1 ⟨rfl, rfl⟩
    change bodyPost _ _ _ (Exit.panic _) _ _
    exact ⟨rfl, drewN_below (Below.refl _ _) 1, .inr ⟨1, ⟨by unfold chkB; rw [hf]; rfl, rfl⟩, rfl⟩⟩
  rw [hf] at HF
  have HF2 : Hid (Calls Try.prog 22 #[.int .i64 ((k : Int) + 2), .slice A N c] w.drew fun e w' => e = .returned (.tuple #[]) ∧ w.drew = w') := HF.out
  have Hf := Lib.hid hf
  clear hf HF
  refine HF2.out.mono ?_
  rintro e w1 ⟨rfl, rfl⟩
  go_wp2_with fail
  rcases hm : decide ((missL S).length = 0) with _ | _
  · rw [hm] at HT
    refine HT.out.mono ?_
    rintro e w1 ⟨rfl, hb⟩
    change bodyPost _ _ _ (Exit.panic _) _ _
    exact ⟨rfl, (drewN_below (Below.refl _ _) 1).trans hb, .inr ⟨1, ⟨by unfold chkB; rw [Hf.out, hm]; rfl, rfl⟩, rfl⟩⟩
  rw [hm] at HT
  have HT2 : Hid (Calls Try.prog 23 #[.slice A N c] w.drew fun e w' => e = .returned (.tuple #[]) ∧ Below w.drew.heap.size w.drew w') := HT.out
  have Hp : Hid (chkB k S = true) := by unfold Hid chkB; rw [Hf.out, hm]; rfl
  clear hm HT HF2 Hf
  refine HT2.out.mono ?_
  rintro e w2 ⟨rfl, hb2⟩
  have hb2 : Below w.heap.size w w2 := (drewN_below (Below.refl _ w) 1).trans hb2
  obtain ⟨p1, p2, p3⟩ := chk_facts Hp.out
  obtain ⟨b, o, rfl, hbl⟩ := Hh.out.at_ (by omega)
  obtain ⟨r1, r2, r3⟩ := He.out.below hb2
  have HS : Hid (∀ W, Below w.heap.size w W → W.cell? ⟨c0, 0, none⟩ = some (.pointer (some ⟨bc, 0, none⟩)) ∧ W.cell? ⟨bc, 0, none⟩ = some (.int .i64 (k : Int)) ∧ W.cell? ⟨c1, 0, none⟩ = some (.slice (some ⟨b, o, none⟩) N c)) := fun W hb => ⟨(He.out.below hb).code, (He.out.below hb).num, (He.out.below hb).shards⟩
  have Hb2 : Hid (Below w.heap.size w w2.drew) := drewN_below hb2 1
  have hpb : parB k (S.take k) = true := par_yes (by rw [List.length_take]; omega) p2 (fun i l hl => by
    rw [List.getElem?_take] at hl
    split at hl
    · exact p3 i l hl
    · cases hl)
  have HPar : Hid (Calls Try.prog 12 #[.pointer (some ⟨bc, 0, none⟩), .slice (some ⟨b, o, none⟩) k c] w2.drew fun e w' => ∃ A8 c8, e = .returned (.tuple #[.slice A8 2 c8, .int .i64 0]) ∧ RM w' w'.heap.size A8 (parL k (S.take k)) ∧ Below w2.drew.heap.size w2.drew w') := by
    have := parity_any bc k k c (some ⟨b, o, none⟩) (S.take k) w2.drew r2 (((Hh.out.take' k).below hb2).wide hb2.size |>.drewN 1) (by rw [List.length_take]; omega) (by have := Hb.out; omega) Hb.out.2.2.1 Hb.out.2.2.2.1 (fun i l hl => by
      rw [List.getElem?_take] at hl
      split at hl
      · exact Hl.out i l hl
      · cases hl)
    have e2 : parE k (S.take k) = 0 := by unfold parE; rw [if_pos hpb]
    rw [e2] at this
    refine this.mono fun e w' hx => ?_
    obtain ⟨A8, c8, g1, g2, _, g3⟩ := hx.rm
    rw [show (parL k (S.take k)).length = 2 by unfold parL; rw [if_pos hpb]; rfl] at g1
    exact ⟨A8, c8, g1, g2, g3⟩
  have Hpl : Hid ((parL k (S.take k)).length = 2 ∧ S.length = k + 2) := ⟨by unfold parL; rw [if_pos hpb]; rfl, p1⟩
  have hkc : (k : Int) ≤ (c : Int) := by have := Hb.out; omega
  have hkN : (k : Int) ≤ (N : Int) := by have := Hb.out; omega
  obtain rfl : N = k + 2 := by have := Hb.out; omega
  have hkc2 : (k : Int) < (c : Int) := by have := Hb.out; omega
  have hkc3 : k < c := by have := Hb.out; omega
  clear hb2 p1 p2 p3 hpb q1 q2 q3 HT2 hbl
  go_wp2_with fail
  go_region_held3 (fun W => W.cell? ⟨c0, 0, none⟩ = some (.pointer (some ⟨bc, 0, none⟩)) ∧ W.cell? ⟨bc, 0, none⟩ = some (.int .i64 (k : Int)) ∧ W.cell? ⟨c1, 0, none⟩ = some (.slice (some ⟨b, o, none⟩) (k + 2) c)) (first | exact ⟨r1, r2, r3⟩ | exact hS5)
    (first
      | (go_at_call 12; refine HPar.out.mono ?_; rintro e w5 ⟨A8, c8, rfl, r8, b8⟩; have Hb5 : Hid (Below w.heap.size w w5 ∧ RM w5 w5.heap.size A8 (parL k (S.take k))) := ⟨Hb2.out.trans (b8.mono Hb2.out.size), r8⟩; have hS5 := HS.out w5 Hb5.out.1; clear r8 b8)
      | (go_at_call 39; refine (mustL_ok _ _ _ _).mono ?_; rintro e w9 ⟨rfl, rfl⟩))
  obtain ⟨y1, y2, y3⟩ := hS5
  have hq1 : ¬ k = c := by omega
  go_wp2_with fail
  refine wp_region_still_tail 7 (by kernel_rfl) (by kernel_rfl) ?_
  simp only [List.take_succ_cons, List.take_zero, List.drop_succ_cons, List.drop_zero]
  have hsl := slice_low w5.drew b o k (k + 2) c (by omega) hkc3
  rw [show k + 2 - k = 2 by omega] at hsl
  repeat still_step
  refine wpStill_nil ?_
  clear hsl
  change wpList _ _ _ _ _ w5.drew
  have HE := Lib.hid (eqf_any A8 (some ⟨b, o + k, none⟩) c8 (c - k) (parL k (S.take k)) (S.drop k) w5.drew w5.heap.size (Hb5.out.2.drewN 1) (((Hh.out.below (drewN_below Hb5.out.1 1)).wide Hb5.out.1.size).drop' k) (by rw [Hpl.out.1]; omega) (by rw [List.length_drop, Hpl.out.2]; omega))
  rw [Hpl.out.1, List.length_drop, Hpl.out.2, show k + 2 - k = 2 by omega] at HE
  go_wp2_with fail
  refine HE.out.mono ?_
  rintro e w7 ⟨rfl, rfl⟩
  go_wp2_with fail
  go_ret
  exact ⟨drewN_below Hb5.out.1 1, .inl ⟨_, rfl, Hp.out, rfl⟩⟩
set_option maxHeartbeats 1600000 in
theorem check_any (bc k N c : Nat) (A : Option Addr) (S : Mtx) (w : World) (hc : w.cell? ⟨bc, 0, none⟩ = some (.int .i64 (k : Int))) (h : RM w w.heap.size A S) (hN : N = S.length) (hNc : N ≤ c) (hN2 : N ≤ 255) (hk1 : 1 ≤ k) (hk2 : k ≤ 253) (hl : ∀ (k : Nat) (l : List UInt8), S[k]? = some l → l.length ≤ 1048576) :
    Calls Try.prog 18 #[.pointer (some ⟨bc, 0, none⟩), .slice A N c] w fun e w' => e = .returned (.tuple #[.bool (chkA k S), .int .i64 (chkE k S)]) ∧ Below w.heap.size w w' := by
  have hmf : ∀ (fn : Fn) (first cap : Array Value) (w : World), (Instr.makeFunc fn first cap).run Try.prog w = .ok (.func fn first cap) w := fun _ _ _ _ => rfl
  have hbel : Below w.heap.size w (((w.alloc (.cells #[.pointer (some ⟨bc, 0, none⟩)] 25)).alloc (.cells #[.slice A N c] 22)).alloc (.cells #[.int .i64 0] 26)) := (((Below.refl _ _).alloc (Nat.le_refl _) _).alloc (by simp) _).alloc (by simp; omega) _
  have HC := Lib.hid (caughtCheck (.pointer (some ⟨w.heap.size, 0, none⟩), .pointer (some ⟨w.heap.size + 1, 0, none⟩)) _ _ _ (check_body w.heap.size (w.heap.size + 1) bc k N c A S _ (env_new w bc k (.slice A N c) 25 22 hc) ((h.below hbel).wide hbel.size) hN hNc hN2 hk1 hk2 hl))
  have Hb2 : Hid (Below w.heap.size w ((w.alloc (.cells #[.pointer (some ⟨bc, 0, none⟩)] 25)).alloc (.cells #[.slice A N c] 22))) := ((Below.refl _ _).alloc (Nat.le_refl _) _).alloc (by simp) _
  clear hc h hN hNc hN2 hk1 hk2 hl hbel
  go_enter Try.func18, Try.ntmps18
  go_wp2_with fail
  refine HC.out.mono ?_
  rintro e w' ⟨hb, ⟨v, rfl, hp, rfl⟩ | ⟨x, ⟨hp, hx⟩, rfl⟩⟩
  · have Hd : Hid (chkB k S = true ∧ Below w.heap.size w w') := ⟨hp, Hb2.out.trans (hb.mono Hb2.out.size)⟩
    clear hp hb HC
    go_wp2_with fail
    go_ret2
    have e1 : chkA k S = chkV k S := by unfold chkA; rw [Hd.out.1]; rfl
    have e2 : chkE k S = 0 := by unfold chkE; rw [Hd.out.1]; rfl
    exact ⟨by rw [e1, e2]; rfl, Hd.out.2⟩
  · have Hd : Hid (chkB k S = false ∧ Below w.heap.size w w' ∧ x = 1) := ⟨hp, Hb2.out.trans (hb.mono Hb2.out.size), hx⟩
    clear hp hb hx HC
    go_wp2_with fail
    go_ret2
    have e1 : chkA k S = false := by unfold chkA; rw [Hd.out.1]; rfl
    have e2 : chkE k S = 1 := by unfold chkE; rw [Hd.out.1]; rfl
    exact ⟨by rw [e1, e2, Hd.out.2.2]; rfl, Hd.out.2.1⟩
end Go.Proofs.Ytonihcgjepfpkaa

/-
  What Check finds; lists joined by append.
-/
namespace Go.Proofs.Ytonihcgjepfpkaa
open Go.RowKit

set_option maxRecDepth 20000
theorem parL_ok {k n : Nat} {S : Mtx} (hS : S.length = k) (hk : 1 ≤ k) (hn : 1 ≤ n) (h : ∀ (i : Nat) (l : List UInt8), S[i]? = some l → l.length = n) : parL k S = linM (pairsM k) S n ∧ parE k S = 0 := by
  have hp := par_yes hS hn h
  have h0 := h 0 _ (head_get (M := S) (by omega))
  unfold parL parE
  rw [if_pos hp, if_pos hp, h0]
  exact ⟨rfl, rfl⟩
theorem chk_yes {k n : Nat} {S : Mtx} (hS : S.length = k + 2) (hn : 1 ≤ n) (h : ∀ (i : Nat) (l : List UInt8), S[i]? = some l → l.length = n) : chkB k S = true := by
  have := par_yes hS hn h
  unfold parB at this
  unfold chkB
  rw [show (((k + 2 : Nat)) : Int) = (k : Int) + 2 by omega] at this
  exact this
theorem all_take {k n : Nat} {D : Mtx} (hD : D.length = k) : (allD k n D).take k = D := by
  unfold allD
  rw [← hD, List.take_left']
  rfl
theorem all_drop {k n : Nat} {D : Mtx} (hD : D.length = k) : (allD k n D).drop k = linM (pairsM k) D n := by
  unfold allD
  rw [List.drop_left' hD]
theorem chk_all {k n : Nat} {D : Mtx} (hk : 1 ≤ k) (hn : 1 ≤ n) (hD : D.length = k) (hl : ∀ (i : Nat) (l : List UInt8), D[i]? = some l → l.length = n) : chkA k (allD k n D) = true ∧ chkE k (allD k n D) = 0 := by
  have hb := chk_yes (allD_length (n := n) hD) hn (fun i l h => allD_row hD hl h)
  unfold chkA chkE
  rw [hb, if_pos rfl]
  refine ⟨?_, rfl⟩
  rw [Bool.true_and]
  unfold chkV
  rw [all_take hD, all_drop hD, (parL_ok hD hk hn hl).1, decide_eq_true rfl]
theorem bx_back (a b y : UInt8) (h : (a ^^^ b) ^^^ y = a) : y = b := by
  have h1 := congrArg (fun t => a ^^^ t) h
  simp only [UInt8.xor_self] at h1
  rw [UInt8.xor_assoc, ← UInt8.xor_assoc a a, UInt8.xor_self, UInt8.zero_xor] at h1
  have h2 := congrArg (fun t => b ^^^ t) h1
  simp only [UInt8.xor_zero] at h2
  rw [← UInt8.xor_assoc, UInt8.xor_self, UInt8.zero_xor] at h2
  exact h2
theorem bx_ne (a y : UInt8) (h : y ≠ 0) : a ^^^ y ≠ a := fun e => h (by
  have h1 := congrArg (fun t => a ^^^ t) e
  simp only [UInt8.xor_self] at h1
  rwa [← UInt8.xor_assoc, UInt8.xor_self, UInt8.zero_xor] at h1)
theorem xorK_set (i : Nat) (y : UInt8) (v : List UInt8) : ∀ k, k ≤ v.length → xorK (v.set i y) k = if i < k then (xorK v k ^^^ v.getD i 0) ^^^ y else xorK v k
  | 0, _ => by rw [if_neg (by omega)]; rfl
  | k + 1, h => by
    have ih := xorK_set i y v k (by omega)
    show xorK (v.set i y) k ^^^ (v.set i y).getD k 0 = if i < k + 1 then ((xorK v k ^^^ v.getD k 0) ^^^ v.getD i 0) ^^^ y else xorK v k ^^^ v.getD k 0
    rw [ih]
    by_cases e : i = k
    · subst e
      rw [if_neg (by omega), if_pos (by omega), List.getD_eq_getElem?_getD, List.getElem?_set_self (by omega)]
      show xorK v i ^^^ y = ((xorK v i ^^^ v.getD i 0) ^^^ v.getD i 0) ^^^ y
      rw [UInt8.xor_assoc (xorK v i), UInt8.xor_self, UInt8.xor_zero]
    · have e2 : (v.set i y).getD k 0 = v.getD k 0 := by rw [List.getD_eq_getElem?_getD, List.getElem?_set_ne e, ← List.getD_eq_getElem?_getD]
      rw [e2]
      by_cases h1 : i < k
      · rw [if_pos h1, if_pos (by omega), UInt8.xor_assoc, UInt8.xor_assoc, UInt8.xor_assoc, UInt8.xor_assoc, UInt8.xor_comm y, ← UInt8.xor_assoc (v.getD i 0), UInt8.xor_comm (v.getD i 0), UInt8.xor_assoc]
      · rw [if_neg h1, if_neg (by omega)]
theorem col_set {D : Mtx} {i j : Nat} {r : List UInt8} {y : UInt8} (hj : j < r.length) : col (D.set i (r.set j y)) j = (col D j).set i y := by
  unfold col
  rw [List.map_set, List.getD_eq_getElem?_getD, List.getElem?_set_self hj]
  rfl
theorem chk_no {k n i j : Nat} {D : Mtx} {r : List UInt8} {y : UInt8} (hk : 1 ≤ k) (hn : 1 ≤ n) (hD : D.length = k) (hl : ∀ (i : Nat) (l : List UInt8), D[i]? = some l → l.length = n) (hi : (allD k n D)[i]? = some r) (hj : j < n) (hy : y ≠ r.getD j 0) :
    chkA k ((allD k n D).set i (r.set j y)) = false ∧ chkE k ((allD k n D).set i (r.set j y)) = 0 := by
  have hX := allD_length (n := n) hD
  have hrl := allD_row hD hl hi
  have hii := (List.getElem?_eq_some_iff.1 hi).1
  have hb := chk_yes (S := (allD k n D).set i (r.set j y)) (by rw [List.length_set]; exact hX) hn (fun t l h => by
    by_cases e : i = t
    · subst e
      rw [List.getElem?_set_self hii] at h
      cases h
      rw [List.length_set]; exact hrl
    · rw [List.getElem?_set_ne e] at h
      exact allD_row hD hl h)
  unfold chkA chkE
  rw [hb, if_pos rfl]
  refine ⟨?_, rfl⟩
  rw [Bool.true_and]
  unfold chkV
  refine decide_eq_false fun e => hy ?_
  by_cases h : i < k
  · rw [List.take_set, all_take hD, List.drop_set_of_lt h, all_drop hD] at e
    have hDi : D[i]? = some r := by
      unfold allD at hi
      rwa [List.getElem?_append_left (by omega)] at hi
    rw [(parL_ok (S := D.set i (r.set j y)) (n := n) (by rw [List.length_set]; exact hD) hk hn (fun t l h => by
      by_cases e : i = t
      · subst e
        rw [List.getElem?_set_self (by omega)] at h
        cases h
        rw [List.length_set]; exact hrl
      · rw [List.getElem?_set_ne e] at h
        exact hl t l h)).1] at e
    have e1 : lin (List.replicate k 1) (D.set i (r.set j y)) n = lin (List.replicate k 1) D n := (List.cons.inj e).1
    have e2 : (lin (List.replicate k 1) (D.set i (r.set j y)) n).getD j 0 = (lin (List.replicate k 1) D n).getD j 0 := by rw [e1]
    have hl' : ∀ (t : Nat) (l : List UInt8), (D.set i (r.set j y))[t]? = some l → l.length = n := fun t l h => by
      by_cases e : i = t
      · subst e
        rw [List.getElem?_set_self (by omega)] at h
        cases h
        rw [List.length_set]; exact hrl
      · rw [List.getElem?_set_ne e] at h
        exact hl t l h
    rw [lin_get (by simp [hD]) hl' j hj, lin_get (by simp [hD]) hl j hj] at e2
    unfold dot at e2
    rw [List.length_replicate, dotK_ones k _ k (Nat.le_refl _), dotK_ones k _ k (Nat.le_refl _), col_set (by omega), xorK_set i y _ k (by rw [col_length, hD]; exact Nat.le_refl _), if_pos h, col_get hDi] at e2
    exact bx_back _ _ _ e2
  · rw [List.take_set_of_le (by omega), all_take hD, List.drop_set, if_neg h, all_drop hD, (parL_ok hD hk hn hl).1] at e
    have h1 : (linM (pairsM k) D n)[i - k]? = some r := by
      unfold allD at hi
      rw [List.getElem?_append_right (by omega), hD] at hi
      exact hi
    have h2 : (linM (pairsM k) D n)[i - k]? = ((linM (pairsM k) D n).set (i - k) (r.set j y))[i - k]? := by rw [← e]
    rw [h1, List.getElem?_set_self (List.getElem?_eq_some_iff.1 h1).1] at h2
    have h3 : r.getD j 0 = (r.set j y).getD j 0 := by rw [← Option.some.inj h2]
    rw [h3, List.getD_eq_getElem?_getD, List.getElem?_set_self (by omega)]
    rfl
/-- one behind the other -/
theorem mat_join {W : World} {lo hi lo2 hi2 gp np cp : Nat} {v : Value} {M P : Mtx} (h : MatO W lo hi v M) (hp : MatO W lo2 hi2 (.slice (some ⟨gp, 0, none⟩) np cp) P) (h1 : hi2 ≤ lo) (h2 : lo2 ≤ lo) :
    ∃ rows prow : List Value, OwnV W lo 41 v rows ∧ rows.length = M.length ∧ prow.length = P.length ∧ (∀ (j : Nat) (u : Value), prow[j]? = some u → W.cell? ⟨gp, j, none⟩ = some u) ∧ (∀ u ∈ prow, u.oneCell' = true) ∧
      ∀ v' w', OwnV w' lo 41 v' (rows ++ prow) → W.grownBy w' v.ownBlock → MatO w' lo2 w'.heap.size v' (M ++ P) := by
  obtain ⟨rows, a, b, c, d, e⟩ := h
  obtain ⟨prow, a2, b2, c2, d2, e2⟩ := hp
  have hget : ∀ (i : Nat) (r : Value), rows[i]? = some r → ∃ l, M[i]? = some l := fun i r hr => ⟨_, List.getElem?_eq_getElem (by rw [← c]; exact (List.getElem?_eq_some_iff.1 hr).1)⟩
  have hget2 : ∀ (i : Nat) (r : Value), prow[i]? = some r → ∃ l, P[i]? = some l := fun i r hr => ⟨_, List.getElem?_eq_getElem (by rw [← c2]; exact (List.getElem?_eq_some_iff.1 hr).1)⟩
  refine ⟨rows, prow, a, c, c2, fun j u hu => ?_, fun u hu => ?_, fun v' w' hown hg => ?_⟩
  · obtain ⟨A, c', e9, _, _, hrd⟩ := a2.rd
    obtain ⟨b9, e8, h8, h9⟩ := hrd j u hu
    have e1 := (Value.slice.inj e9).1
    rw [e8] at e1
    cases e1
    exact h9
  · obtain ⟨i, hi⟩ := List.getElem?_of_mem hu
    obtain ⟨l, hl⟩ := hget2 i u hi
    obtain ⟨d1, d3, _⟩ := d2 i u l hi hl
    obtain ⟨bb, cap, rfl, _⟩ := d3.form d1
    rfl
  have hty : ∀ (r : Value) (x : List UInt8), Own W lo r x → 0 < x.length → ∀ g, r.ownBlock = some g → v.ownBlock ≠ some g := by
    intro r x hx hx0 g hgr hgv
    rcases a.form with ⟨hv, _⟩ | ⟨g', cap', cur, hv, _, hc, _⟩
    · rw [hv] at hgv; cases hgv
    · rw [hv] at hgv
      cases hgv
      exact own_ne hx hc hgr
  have moved : ∀ (r : Value) (x : List UInt8), Own W lo r x → 0 < x.length → Own w' lo2 r x := fun r x hx hx0 => (hx.move fun g hgr => hg.block g (hx.lt g hgr).2 (fun e' => hty r x hx hx0 g hgr e'.symm)).wide h2
  have moved2 : ∀ (r : Value) (x : List UInt8), Own W lo2 r x → (∀ g, r.ownBlock = some g → g < hi2) → Own w' lo2 r x := fun r x hx hlt => hx.move fun g hgr => hg.block g (hx.lt g hgr).2 (fun e' => by
    have := (a.ge g e'.symm).1
    have := hlt g hgr
    omega)
  refine ⟨rows ++ prow, hown.wide h2, fun g hg' => (hown.ge g hg').2, by simp [c, c2], fun i r l hr hl => ?_, fun i j ri rj g hij hri hrj hgi hgj => ?_⟩
  · by_cases hi' : i < rows.length
    · rw [List.getElem?_append_left hi'] at hr
      rw [List.getElem?_append_left (by rw [← c]; exact hi')] at hl
      obtain ⟨d1, d3, _⟩ := d i r l hr hl
      have := moved r l d3 d1
      exact ⟨d1, this, fun g hgr => (this.lt g hgr).2⟩
    · rw [List.getElem?_append_right (by omega)] at hr
      rw [List.getElem?_append_right (by rw [← c]; omega), ← c] at hl
      obtain ⟨d1, d3, d4⟩ := d2 _ r l hr hl
      have := moved2 r l d3 d4
      exact ⟨d1, this, fun g hgr => (this.lt g hgr).2⟩
  · have hup : ∀ (t : Nat) (r : Value), rows[t]? = some r → r.ownBlock = some g → lo ≤ g := fun t r hr hgr => by
      obtain ⟨l, hl⟩ := hget t r hr
      exact ((d t r l hr hl).2.1.lt g hgr).1
    have hdn : ∀ (t : Nat) (r : Value), prow[t]? = some r → r.ownBlock = some g → g < hi2 := fun t r hr hgr => by
      obtain ⟨l, hl⟩ := hget2 t r hr
      exact (d2 t r l hr hl).2.2 g hgr
    by_cases hi' : i < rows.length
    · rw [List.getElem?_append_left hi'] at hri
      by_cases hj' : j < rows.length
      · rw [List.getElem?_append_left hj'] at hrj
        exact e i j ri rj g hij hri hrj hgi hgj
      · rw [List.getElem?_append_right (by omega)] at hrj
        have q1 := hup i ri hri hgi
        have q2 := hdn _ rj hrj hgj
        omega
    · rw [List.getElem?_append_right (by omega)] at hri
      by_cases hj' : j < rows.length
      · rw [List.getElem?_append_left hj'] at hrj
        have q1 := hup j rj hrj hgj
        have q2 := hdn _ ri hri hgi
        omega
      · rw [List.getElem?_append_right (by omega)] at hrj
        exact e2 _ _ ri rj g (by omega) hri hrj hgi hgj
end Go.Proofs.Ytonihcgjepfpkaa
